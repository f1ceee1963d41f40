/-
  Several texts in one: Wc6, Qc6. No statement is proved here.
-/
import Derived.Test.YtnodnfailjmpeaaWcY
import Derived.Test.YtnodnfailjmpeaaSMd11
import Derived.Deep.CutRange
namespace Go.Proofs.Ytnodnfailjmpeaa
open Go.RowKit
open Mc (Ed Ma)

namespace Mc
/-- What corresponds to each of the first n states, by the first k places. -/
def cor (la lb : List Int) (n k : Nat) : List Int := (List.range n).map fun (s : Nat) => if (s : Int) ∈ la.take k then (lb[(ix la s).toNat]?).getD (-1) else -1
theorem cor_len (la lb : List Int) (n k : Nat) : (cor la lb n k).length = n := by simp [cor]
theorem cor_zero (la lb : List Int) (n : Nat) : cor la lb n 0 = List.replicate n (-1) := by
  unfold cor
  apply List.ext_getElem?
  intro t
  rw [List.getElem?_map]
  rcases Nat.lt_or_ge t n with h | h
  · rw [List.getElem?_range h, List.getElem?_replicate, if_pos h]
    simp
  · rw [List.getElem?_eq_none (by simpa using h), List.getElem?_eq_none (by simpa using h)]
    rfl
theorem cor_snoc {la lb : List Int} {n k s : Nat} {t : Int} (hd : la.Nodup) (ha : la[k]? = some (s : Int)) (hb : lb[k]? = some t) : cor la lb n (k + 1) = (cor la lb n k).set s t := by
  apply List.ext_getElem?
  intro j
  rcases Nat.lt_or_ge j n with hj | hj
  · have e1 : ∀ k, (cor la lb n k)[j]? = some (if (j : Int) ∈ la.take k then (lb[(ix la j).toNat]?).getD (-1) else -1) := fun k => by simp [cor, hj]
    rw [e1]
    have htk : la.take (k + 1) = la.take k ++ [(s : Int)] := by
      rw [List.take_add_one, ha]
      rfl
    by_cases e : s = j
    · subst e
      rw [List.getElem?_set_self (by rw [cor_len]; exact hj), htk, if_pos (by simp), ix_at hd ha, Int.toNat_natCast, hb]
      rfl
    · rw [List.getElem?_set_ne e, e1, htk]
      have : ((j : Int) ∈ la.take k ++ [(s : Int)]) ↔ (j : Int) ∈ la.take k := by
        rw [List.mem_append]
        constructor
        · rintro (h | h)
          · exact h
          · simp at h
            omega
        · exact Or.inl
      simp only [this]
  · rw [List.getElem?_eq_none (by rw [cor_len]; exact hj), List.getElem?_eq_none (by rw [List.length_set, cor_len]; exact hj)]
/-- What Isomorphic tells. -/
noncomputable def isoE (a b : Ma) : Int := if chk a ≠ 0 then chk a else chk b
noncomputable def isoB (a b : Ma) : Bool := if isoE a b ≠ 0 then false else decide (prt a (ord a) = prt b (ord b))
noncomputable def isoV (a b : Ma) : List Int := if isoB a b = true then cor (ord a) (ord b) a.r.length (ord a).length else []
end Mc
/-- What Isomorphic hands back. -/
def IsoP (w : World) (a b : Ma) (e : Ending) (w' : World) : Prop := ∃ B k, e = .returned (.tuple #[.slice B k k, .bool (Mc.isoB a b), .int .i64 (Mc.isoE a b)]) ∧ Hid ((Mc.isoV a b).length = k) ∧ Rd w' B (Mc.isoV a b) ∧ Below w.heap.size w w'
/-- Two machines in boxes of the call's own. -/
structure B2 (w : World) (a b : Ma) (A B : Option Addr) (n c k d : Nat) (W : World) : Prop where
  bel : Below w.heap.size w W
  ba : BxM W w.heap.size a.i a.o A n c
  bb : BxM W (w.heap.size + 1) b.i b.o B k d
theorem B2.below {w W W' : World} {a b : Ma} {A B : Option Addr} {n c k d : Nat} (h : B2 w a b A B n c k d W) (x : Below W.heap.size W W') : B2 w a b A B n c k d W' := ⟨below_next h.bel x, h.ba.mvB x, h.bb.mvB x⟩

namespace Mc
theorem samV_left {a b : Ma} (va : Val a) : samV a b = decide (a = b) := by
  unfold samV
  rw [chk_of va]
  by_cases h : a = b
  · subst h
    rw [chk_of va]
    rfl
  · simp [h]
end Mc
theorem Wb.rd {base p n : Nat} {rs : List (List Ed)} {gs : List Nat} {W : World} (h : Wb base p n rs gs W) (hg : gs.length = n) (hn : n = rs.length) (hm : n ≤ 1000000) (hrl : ∀ row ∈ rs, row.length ≤ 1000000) : RdR W (some ⟨p, 0, none⟩) rs := by
  obtain ⟨A, c, hv, _, _, _, hr⟩ := (h.bld hg hn (by unfold maxLen; omega) (fun row hrow => by have := hrl row hrow; unfold maxLen; omega)).rd
  injection hv with hv
  rw [hv]
  exact hr
/-- A machine whose rows lie in blocks of their own. -/
def Rw (W : World) (p k : Nat) (m : Ma) (l : List Int) : Prop := ∃ gs : List Nat, gs.length = k ∧ l.length = k ∧ Wb 0 p k (Mc.prt m l).r gs W
theorem ord_val {m : Ma} (v : Mc.Val m) : Mc.Val (Mc.prt m (Mc.ord m)) := Mc.prt_val v (Mc.ord_cls v) (Mc.ord_pos v) (by
  have := Mc.nodup_le m.r.length _ (Mc.ord_cls v).nd (Mc.ord_cls v).rg
  have := v.r1
  omega)
theorem Rw.rd {W : World} {p k : Nat} {m : Ma} {l : List Int} (h : Rw W p k m l) (v : Mc.Val (Mc.prt m l)) : RdR W (some ⟨p, 0, none⟩) (Mc.prt m l).r ∧ (Mc.prt m l).r.length = k ∧ k ≤ 1000000 := by
  obtain ⟨gs, h1, h2, h3⟩ := h
  have h4 : (Mc.prt m l).r.length = k := by rw [Mc.prt_len]; exact h2
  have h5 : k ≤ 1000000 := by have := v.r1; omega
  exact ⟨h3.rd h1 h4.symm h5 v.rows, h4, h5⟩
theorem isoSame (a b : Ma) (va : Mc.Val a) (vb : Mc.Val b) (w : World) (p p2 k1 k2 : Nat) (h1 : Rw w p k1 a (Mc.ord a)) (h2 : Rw w p2 k2 b (Mc.ord b)) :
    Calls Try.prog 94 #[.agg #[.int .i64 a.i, .int .i64 a.o, .slice (some ⟨p, 0, none⟩) k1 k1], .agg #[.int .i64 b.i, .int .i64 b.o, .slice (some ⟨p2, 0, none⟩) k2 k2]] w fun e w' => e = .returned (.bool (decide (Mc.prt a (Mc.ord a) = Mc.prt b (Mc.ord b)))) ∧ Below w.heap.size w w' := by
  obtain ⟨r1, l1, b1⟩ := h1.rd (ord_val va)
  obtain ⟨r2, l2, b2⟩ := h2.rd (ord_val vb)
  have := psame_any a.i a.o b.i b.o (Mc.prt a (Mc.ord a)).r (Mc.prt b (Mc.ord b)).r (some ⟨p, 0, none⟩) (some ⟨p2, 0, none⟩) k1 k1 k2 k2 w r1 r2 l1 b1 (ord_val va).rows l2 b2 (ord_val vb).rows
  have e : Mc.samV ⟨a.i, a.o, (Mc.prt a (Mc.ord a)).r⟩ ⟨b.i, b.o, (Mc.prt b (Mc.ord b)).r⟩ = decide (Mc.prt a (Mc.ord a) = Mc.prt b (Mc.ord b)) := Mc.samV_left (ord_val va)
  rw [e] at this
  exact this
theorem run_idx0 (i o i' o' : Int) (A B : Option Addr) (n c k d : Nat) (w : World) : (Instr.index 87 (.agg #[.int .i64 i, .int .i64 o, .slice A n c, .int .i64 i', .int .i64 o', .slice B k d]) (.int .i64 0)).run Try.prog w = .ok (.agg #[.int .i64 i, .int .i64 o, .slice A n c]) w := by kernel_rfl
theorem run_idx1 (i o i' o' : Int) (A B : Option Addr) (n c k d : Nat) (w : World) : (Instr.index 87 (.agg #[.int .i64 i, .int .i64 o, .slice A n c, .int .i64 i', .int .i64 o', .slice B k d]) (.int .i64 1)).run Try.prog w = .ok (.agg #[.int .i64 i', .int .i64 o', .slice B k d]) w := by kernel_rfl
set_option maxRecDepth 100000 in
set_option maxHeartbeats 4000000 in
theorem wiso_any (a b : Ma) (A B : Option Addr) (n c k d : Nat) (w : World) (hr : RdR w A a.r) (hq : RdR w B b.r) (hn : a.r.length = n) (hk : b.r.length = k) (hnb : n ≤ 1000000) (hkb : k ≤ 1000000) (hrl : ∀ row ∈ a.r, row.length ≤ 1000000) (hql : ∀ row ∈ b.r, row.length ≤ 1000000) :
    Calls Try.prog 70 #[.agg #[.int .i64 a.i, .int .i64 a.o, .slice A n c], .agg #[.int .i64 b.i, .int .i64 b.o, .slice B k d]] w (IsoP w a b) := by
  have RL := Lib.hid hrl
  have QL := Lib.hid hql
  have HN := Lib.hid hn
  have HK := Lib.hid hk
  have h0 : B2 w a b A B n c k d ((boxM w a.i a.o A n c).alloc (.cells #[.int .i64 b.i, .int .i64 b.o, .slice B k d] 24)) :=
    ⟨((Below.refl _ _).alloc (Nat.le_refl _) _).alloc (by simp) _, (BxM.new w _ _ _ _ _).mvB ((Below.refl _ _).alloc (Nat.le_refl _) _), BxM.newE (w := boxM w a.i a.o A n c) (by simp) _ _ _ _ _⟩
  obtain ⟨q0, q1, q2⟩ := h0.ba.cells
  obtain ⟨z0, z1, z2⟩ := h0.bb.cells
  have H0 := Lib.hid h0
  clear hrl hql hn hk h0
  go_enter Try.func70, Try.ntmps70
  go_wp2
  clear q0 q1 q2 z0 z1 z2
  go_loopw [18] (fun v wr => ∃ j : Nat, j ≤ 2 ∧ v = .int .i64 j ∧ (1 ≤ j → Hid (Mc.chk a = 0)) ∧ (2 ≤ j → Hid (Mc.chk b = 0)) ∧ Hid (B2 w a b A B n c k d wr)) (fun v _ => 2 - (intOf v).toNat)
  case atStart => exact ⟨0, by omega, rfl, fun h => absurd h (by omega), fun h => absurd h (by omega), H0⟩
  case round =>
    obtain ⟨j, hj, rfl, h1, h2, hB⟩ := hrel
    clear H0
    have hj3 : j = 0 ∨ j = 1 ∨ j = 2 := by omega
    rcases hj3 with rfl | rfl | rfl
    · have HI0 := fun w => run_idx0 a.i a.o b.i b.o A B n c k d w
      have hB2 := hB.out.below ((Below.refl _ _).alloc (Nat.le_refl _) (.cells #[.int .i64 a.i, .int .i64 a.o, .slice A n c] 24))
      have C := wcheckE a.i a.o a.r A n c _ (hr.below hB2.bel) HN.out hnb RL.out
      have HB2 := Lib.hid hB2
      clear hB hB2 h1 h2
      go_wp2_with fail
      refine C.mono ?_
      rintro e w1 ⟨rfl, hb1⟩
      have HB3 := Lib.hid (HB2.out.below hb1)
      have hb3 := HB3.out.bel
      clear C hb1 HI0 HB2
      by_cases hz : Mc.chk a = 0
      · have hz' : Mc.chk ⟨a.i, a.o, a.r⟩ = 0 := hz
        have HZ := Lib.hid hz
        rw [hz']
        clear hz hz' hb3
        go_wp2
        go_roundw
        case rel => exact ⟨1, by omega, rfl, fun _ => HZ, fun h => absurd h (by omega), HB3⟩
        case measure => simp [intOf]
      · obtain ⟨z, hzz⟩ : ∃ z, Mc.chk ⟨a.i, a.o, a.r⟩ = z := ⟨_, rfl⟩
        have hz0 : z ≠ 0 := by rw [← hzz]; exact hz
        have hzn : (z != 0) = true := by simpa using hz0
        have hzb : (z == 0) = false := by rw [beq_eq_false_iff_ne]; exact hz0
        have hE : Mc.isoE a b = z := by unfold Mc.isoE; rw [if_pos hz]; exact hzz
        have hBf : Mc.isoB a b = false := by unfold Mc.isoB; rw [hE, if_pos hz0]
        have hVn : Mc.isoV a b = [] := by unfold Mc.isoV; rw [hBf]; rfl
        have hfin : Hid (IsoP w a b (.returned (.tuple #[.slice none 0 0, .bool false, .int .i64 z])) w1) := ⟨none, 0, by rw [hE, hBf], by rw [hVn]; rfl, by rw [hVn]; exact Rd.nil_, hb3⟩
        rw [hzz]
        clear hzz hE hBf hVn hz hb3 HB3
        go_wp2
        refine bodyPost_ret (v := .tuple #[.slice none 0 0, .bool false, .int .i64 z]) (by simp [results, Try.f70, go_sem]) rfl ?_
        exact hfin.out
    · have HI1 := fun w => run_idx1 a.i a.o b.i b.o A B n c k d w
      have HZA := Lib.hid (h1 (by omega)).out
      have hB2 := hB.out.below ((Below.refl _ _).alloc (Nat.le_refl _) (.cells #[.int .i64 b.i, .int .i64 b.o, .slice B k d] 24))
      have C := wcheckE b.i b.o b.r B k d _ (hq.below hB2.bel) HK.out hkb QL.out
      have HB2 := Lib.hid hB2
      clear hB hB2 h1 h2
      go_wp2_with fail
      refine C.mono ?_
      rintro e w1 ⟨rfl, hb1⟩
      have HB3 := Lib.hid (HB2.out.below hb1)
      have hb3 := HB3.out.bel
      clear C hb1 HI1 HB2
      by_cases hz : Mc.chk b = 0
      · have hz' : Mc.chk ⟨b.i, b.o, b.r⟩ = 0 := hz
        have HZ := Lib.hid hz
        rw [hz']
        clear hz hz' hb3
        go_wp2
        go_roundw
        case rel => exact ⟨2, by omega, rfl, fun _ => HZA, fun _ => HZ, HB3⟩
        case measure => simp [intOf]
      · obtain ⟨z, hzz⟩ : ∃ z, Mc.chk ⟨b.i, b.o, b.r⟩ = z := ⟨_, rfl⟩
        have hz0 : z ≠ 0 := by rw [← hzz]; exact hz
        have hzn : (z != 0) = true := by simpa using hz0
        have hzb : (z == 0) = false := by rw [beq_eq_false_iff_ne]; exact hz0
        have hE : Mc.isoE a b = z := by unfold Mc.isoE; rw [if_neg (by rw [HZA.out]; simp)]; exact hzz
        have hBf : Mc.isoB a b = false := by unfold Mc.isoB; rw [hE, if_pos hz0]
        have hVn : Mc.isoV a b = [] := by unfold Mc.isoV; rw [hBf]; rfl
        have hfin : Hid (IsoP w a b (.returned (.tuple #[.slice none 0 0, .bool false, .int .i64 z])) w1) := ⟨none, 0, by rw [hE, hBf], by rw [hVn]; rfl, by rw [hVn]; exact Rd.nil_, hb3⟩
        rw [hzz]
        clear hzz hE hBf hVn hz hb3 HB3
        go_wp2
        refine bodyPost_ret (v := .tuple #[.slice none 0 0, .bool false, .int .i64 z]) (by simp [results, Try.f70, go_sem]) rfl ?_
        exact hfin.out
    · have HZA := Lib.hid (h1 (by omega)).out
      have HZB := Lib.hid (h2 (by omega)).out
      have HVA := Lib.hid (Mc.val_of HZA.out)
      have HVB := Lib.hid (Mc.val_of HZB.out)
      have hE : Hid (Mc.isoE a b = 0) := by show _ = _; unfold Mc.isoE; rw [if_neg (by rw [HZA.out]; simp)]; exact HZB.out
      have COA : ∀ wz, Below w.heap.size w wz → Calls Try.prog 93 #[.agg #[.int .i64 a.i, .int .i64 a.o, .slice A n c]] wz (OrdP wz a) := fun wz h => by
        have := worder_any a A c wz HVA.out (hr.below h)
        rw [HN.out] at this
        exact this
      have COB : ∀ wz, Below w.heap.size w wz → Calls Try.prog 93 #[.agg #[.int .i64 b.i, .int .i64 b.o, .slice B k d]] wz (OrdP wz b) := fun wz h => by
        have := worder_any b B d wz HVB.out (hq.below h)
        rw [HK.out] at this
        exact this
      have HOA := Lib.hid COA
      have HOB := Lib.hid COB
      have hD := hB.out.below (Below.refl _ _).drew
      have HA0 := Lib.hid (COA _ hD.bel)
      have HB0 := Lib.hid (COB _ hD.bel)
      have HD := Lib.hid hD
      obtain ⟨q0, q1, q2⟩ := hB.out.ba.cells
      obtain ⟨z0, z1, z2⟩ := hB.out.bb.cells
      clear h1 h2 COA COB hD
      go_upto_region 8 with fail
      go_cut [10, 11] from 27 to 30 (fun u v wx => ∃ (g q g2 q2 : Nat), u = .slice (some ⟨g, 0, none⟩) q q ∧ v = .slice (some ⟨g2, 0, none⟩) q2 q2 ∧ Hid ((Mc.ord a).length = q) ∧ Hid ((Mc.ord b).length = q2) ∧ Hid (BlkC wx g (Mc.ord a)) ∧ Hid (BlkC wx g2 (Mc.ord b)) ∧ Hid (B2 w a b A B n c k d wx))
      case first =>
        go_region_held3 (fun w' => (w'.cell? ⟨w.heap.size, 0, none⟩ = some (.int .i64 a.i) ∧ w'.cell? ⟨w.heap.size, 1, none⟩ = some (.int .i64 a.o) ∧ w'.cell? ⟨w.heap.size, 2, none⟩ = some (.slice A n c)) ∧ w'.cell? ⟨w.heap.size + 1, 0, none⟩ = some (.int .i64 b.i) ∧ w'.cell? ⟨w.heap.size + 1, 1, none⟩ = some (.int .i64 b.o) ∧ w'.cell? ⟨w.heap.size + 1, 2, none⟩ = some (.slice B k d))
          (first | exact ⟨u2, v2⟩ | exact ⟨u1, v1⟩ | exact ⟨u4, v4⟩ | exact ⟨u3, v3⟩ | exact ⟨⟨q0, q1, q2⟩, z0, z1, z2⟩ | go_keep)
          (first
            | (go_at_call 93
               (with_reducible refine (HA0.out).mono ?_)
               rintro e wa ⟨gA, qA, rfl, hqA, _, hBA, hbA⟩
               have s1 := HD.out.below hbA
               have u1 := s1.ba.cells
               have v1 := s1.bb.cells
               have HAB := Lib.hid (HOB.out wa s1.bel)
               dsimp only)
            | (go_at_call 93
               (with_reducible refine (HAB.out).mono ?_)
               rintro e wb ⟨gB, qB, rfl, hqB, _, hBB, hbB⟩
               have s2 := s1.below hbB
               have u2 := s2.ba.cells
               have v2 := s2.bb.cells
               have hBA2 := hBA.out.below hbB
               dsimp only)
            | (go_at_call 93
               (with_reducible refine (HB0.out).mono ?_)
               rintro e wa ⟨gB, qB, rfl, hqB, _, hBB, hbB⟩
               have s3 := HD.out.below hbB
               have u3 := s3.ba.cells
               have v3 := s3.bb.cells
               have HBA := Lib.hid (HOA.out wa s3.bel)
               dsimp only)
            | (go_at_call 93
               (with_reducible refine (HBA.out).mono ?_)
               rintro e wb ⟨gA, qA, rfl, hqA, _, hBA, hbA⟩
               have s4 := s3.below hbA
               have u4 := s4.ba.cells
               have v4 := s4.bb.cells
               have hBB2 := hBB.out.below hbA
               dsimp only)
            | fail)
        all_goals
          go_wp2_with fail
          go_meet
          first
            | exact ⟨gA, qA, gB, qB, rfl, rfl, hqA, hqB, hBA2, hBB, s2⟩
            | exact ⟨gA, qA, gB, qB, rfl, rfl, hqA, hqB, hBA, hBB2, s4⟩
            | fail
      case rest =>
        obtain ⟨ga, na, gb, nb, rfl, rfl, hqa, hqb, hBa, hBb, hB3⟩ := hcut
        clear q0 q1 q2 z0 z1 z2 HA0 HB0 HD hB
        have CRA : ∀ wz, Below wc.heap.size wc wz → Calls Try.prog 92 #[.agg #[.int .i64 a.i, .int .i64 a.o, .slice A n c], .slice (some ⟨ga, 0, none⟩) na na] wz (RnP wz a (Mc.ord a)) := fun wz h => by
          have := renum_any a HVA.out (Mc.ord a) (Mc.ord_cls HVA.out) A c (some ⟨ga, 0, none⟩) na na wz (hr.below (below_next hB3.out.bel h)) (hBa.out.below h).rd hqa.out (by rw [← hqa.out]; exact Mc.ord_pos HVA.out)
          rw [HN.out] at this
          exact this
        have CRB : ∀ wz, Below wc.heap.size wc wz → Calls Try.prog 92 #[.agg #[.int .i64 b.i, .int .i64 b.o, .slice B k d], .slice (some ⟨gb, 0, none⟩) nb nb] wz (RnP wz b (Mc.ord b)) := fun wz h => by
          have := renum_any b HVB.out (Mc.ord b) (Mc.ord_cls HVB.out) B d (some ⟨gb, 0, none⟩) nb nb wz (hq.below (below_next hB3.out.bel h)) (hBb.out.below h).rd hqb.out (by rw [← hqb.out]; exact Mc.ord_pos HVB.out)
          rw [HK.out] at this
          exact this
        have CSM := fun (wz : World) (p p2 k1 k2 : Nat) h1 h2 => isoSame a b HVA.out HVB.out wz p p2 k1 k2 h1 h2
        have HRA := Lib.hid CRA
        have HRB := Lib.hid CRB
        have HSM := Lib.hid CSM
        have HA0 := Lib.hid (CRA _ (Below.refl _ _).drew)
        have HB0 := Lib.hid (CRB _ (Below.refl _ _).drew)
        have hiso : Hid (Mc.isoB a b = decide (Mc.prt a (Mc.ord a) = Mc.prt b (Mc.ord b))) := by
          show _ = _
          unfold Mc.isoB
          rw [hE.out, if_neg (by simp)]
        obtain ⟨q0, q1, q2⟩ := hB3.out.ba.cells
        obtain ⟨z0, z1, z2⟩ := hB3.out.bb.cells
        have hD := Lib.hid (hB3.out.below (Below.refl _ _).drew)
        have bD : Below wc.heap.size wc wc.drew := (Below.refl _ _).drew
        clear CRA CRB CSM HOA HOB
        go_upto_region 9 with fail
        go_cut [38] from 31 to 37 (fun v wx => v = .bool (!(Mc.isoB a b)) ∧ Hid (BlkC wx ga (Mc.ord a)) ∧ Hid (BlkC wx gb (Mc.ord b)) ∧ Hid (B2 w a b A B n c k d wx))
        case first =>
          go_region_held3 (fun w' => (w'.cell? ⟨w.heap.size, 0, none⟩ = some (.int .i64 a.i) ∧ w'.cell? ⟨w.heap.size, 1, none⟩ = some (.int .i64 a.o) ∧ w'.cell? ⟨w.heap.size, 2, none⟩ = some (.slice A n c)) ∧ w'.cell? ⟨w.heap.size + 1, 0, none⟩ = some (.int .i64 b.i) ∧ w'.cell? ⟨w.heap.size + 1, 1, none⟩ = some (.int .i64 b.o) ∧ w'.cell? ⟨w.heap.size + 1, 2, none⟩ = some (.slice B k d))
            (first | exact ⟨u6, v6⟩ | exact ⟨u5, v5⟩ | exact ⟨u2, v2⟩ | exact ⟨u1, v1⟩ | exact ⟨u4, v4⟩ | exact ⟨u3, v3⟩ | exact ⟨⟨q0, q1, q2⟩, z0, z1, z2⟩ | go_keep)
            (first
              | (go_at_call 92
                 (with_reducible refine (HA0.out).mono ?_)
                 rintro e wa ⟨pA, kA, gsA, rfl, hkA, hgA, hWA, hbA⟩
                 have s1 := hD.out.below hbA
                 have u1 := s1.ba.cells
                 have v1 := s1.bb.cells
                 have t1 := below_next bD hbA
                 have HAB := Lib.hid (HRB.out wa t1)
                 dsimp only)
              | (go_at_call 92
                 (with_reducible refine (HAB.out).mono ?_)
                 rintro e wb ⟨pB, kB, gsB, rfl, hkB, hgB, hWB, hbB⟩
                 have s2 := s1.below hbB
                 have u2 := s2.ba.cells
                 have v2 := s2.bb.cells
                 have t2 := below_next t1 hbB
                 have HS1 := Lib.hid (HSM.out wb pA pB kA kB ⟨gsA, hgA.out, hkA.out, (hWA.out.below hbB).lower (Nat.zero_le _)⟩ ⟨gsB, hgB.out, hkB.out, hWB.out.lower (Nat.zero_le _)⟩)
                 dsimp only)
              | (go_at_call 92
                 (with_reducible refine (HB0.out).mono ?_)
                 rintro e wa ⟨pB, kB, gsB, rfl, hkB, hgB, hWB, hbB⟩
                 have s3 := hD.out.below hbB
                 have u3 := s3.ba.cells
                 have v3 := s3.bb.cells
                 have t3 := below_next bD hbB
                 have HBA := Lib.hid (HRA.out wa t3)
                 dsimp only)
              | (go_at_call 92
                 (with_reducible refine (HBA.out).mono ?_)
                 rintro e wb ⟨pA, kA, gsA, rfl, hkA, hgA, hWA, hbA⟩
                 have s4 := s3.below hbA
                 have u4 := s4.ba.cells
                 have v4 := s4.bb.cells
                 have t4 := below_next t3 hbA
                 have HS2 := Lib.hid (HSM.out wb pA pB kA kB ⟨gsA, hgA.out, hkA.out, hWA.out.lower (Nat.zero_le _)⟩ ⟨gsB, hgB.out, hkB.out, (hWB.out.below hbA).lower (Nat.zero_le _)⟩)
                 dsimp only)
              | (go_at_call 94
                 (with_reducible refine (HS1.out).mono ?_)
                 rintro e we ⟨rfl, hbE⟩
                 have s5 := s2.below hbE
                 have u5 := s5.ba.cells
                 have v5 := s5.bb.cells
                 have t5 := below_next t2 hbE
                 dsimp only)
              | (go_at_call 94
                 (with_reducible refine (HS2.out).mono ?_)
                 rintro e we ⟨rfl, hbE⟩
                 have s6 := s4.below hbE
                 have u6 := s6.ba.cells
                 have v6 := s6.bb.cells
                 have t6 := below_next t4 hbE
                 dsimp only)
              | fail)
          all_goals
            go_wp2_with fail
            go_meet
            first
              | exact ⟨by rw [hiso.out], hBa.out.below t5, hBb.out.below t5, s5⟩
              | exact ⟨by rw [hiso.out], hBa.out.below t6, hBb.out.below t6, s6⟩
              | fail
        case rest =>
          obtain ⟨rfl, hCa, hCb, hB4⟩ := hcut
          clear q0 q1 q2 z0 z1 z2 HA0 HB0 hD bD HRA HRB HSM hB3 hBa hBb hiso
          cases hbv : Mc.isoB a b with
          | false =>
            have hVn : Mc.isoV a b = [] := by unfold Mc.isoV; rw [hbv]; rfl
            have hfin : Hid (IsoP w a b (.returned (.tuple #[.slice none 0 0, .bool false, .int .i64 0])) wc) := ⟨none, 0, by rw [hE.out, hbv], by rw [hVn]; rfl, by rw [hVn]; exact Rd.nil_, hB4.out.bel⟩
            clear hVn hbv
            go_wp2
            refine bodyPost_ret (v := .tuple #[.slice none 0 0, .bool false, .int .i64 0]) (by simp [results, Try.f70, go_sem]) rfl ?_
            exact hfin.out
          | true =>
            have hpe : Mc.prt a (Mc.ord a) = Mc.prt b (Mc.ord b) := by
              unfold Mc.isoB at hbv
              rw [hE.out, if_neg (by simp)] at hbv
              exact of_decide_eq_true hbv
            have hnn : na = nb := by
              have h1 := congrArg (fun m : Ma => m.r.length) hpe
              simp only [Mc.prt_len] at h1
              rw [hqa.out, hqb.out] at h1
              exact h1
            subst hnn
            have hvV : Hid (Mc.isoV a b = Mc.cor (Mc.ord a) (Mc.ord b) n na) := by
              show _ = _
              unfold Mc.isoV
              rw [hbv, if_pos rfl, HN.out, hqa.out]
            have HBV := Lib.hid hbv
            have hn64 : n ≤ 64 := by rw [← HN.out]; exact HVA.out.r1
            have hna64 : na ≤ 64 := by
              have h1 := Mc.nodup_le a.r.length _ (Mc.ord_cls HVA.out).nd (Mc.ord_cls HVA.out).rg
              rw [hqa.out, HN.out] at h1
              omega
            obtain ⟨q0, q1, q2⟩ := hB4.out.ba.cells
            clear hpe hbv
            go_wp2_with fail
            refine (nones_any n wc (by omega)).mono ?_
            rintro e w5 ⟨gC, rfl, hgC, hBk, hb5⟩
            have hC0 : Hid (Blk w5 gC (Mc.cor (Mc.ord a) (Mc.ord b) n 0)) := by show Blk _ _ _; rw [Mc.cor_zero]; exact hBk
            clear hBk q0 q1 q2
            go_wp2
            go_loopw [45] (fun v wr => ∃ j : Nat, j ≤ na ∧ v = .int .i64 j ∧ Hid (Blk wr gC (Mc.cor (Mc.ord a) (Mc.ord b) n j)) ∧ Below wc.heap.size wc wr) (fun v _ => na - (intOf v).toNat)
            case atStart => exact ⟨0, Nat.zero_le _, rfl, hC0, hb5⟩
            case round =>
              obtain ⟨j, hj, rfl, hBk, hbr⟩ := hrel
              clear hC0 hb5
              by_cases hlt : j < na
              · obtain ⟨b1, off1, s1, he1, _, hc1, hs1⟩ := (hCa.out.below hbr).rd.at_ (k := j) (by rw [hqa.out]; exact hlt)
                injection he1 with he1
                injection he1 with e1 e2
                subst e1 e2
                obtain ⟨b2, off2, s2, he2, _, hc2, hs2⟩ := (hCb.out.below hbr).rd.at_ (k := j) (by rw [hqb.out]; exact hlt)
                injection he2 with he2
                injection he2 with e3 e4
                subst e3 e4
                have hal : (Mc.ord a)[j]? = some s1 := by
                  have := hs1.out
                  rw [List.getElem?_eq_getElem (by rw [hqa.out]; exact hlt)] at this ⊢
                  exact congrArg some this
                have hbl : (Mc.ord b)[j]? = some s2 := by
                  have := hs2.out
                  rw [List.getElem?_eq_getElem (by rw [hqb.out]; exact hlt)] at this ⊢
                  exact congrArg some this
                have hrg := (Mc.ord_cls HVA.out).rg s1 (List.mem_of_getElem? hal)
                rw [HN.out] at hrg
                obtain ⟨t, rfl⟩ := Int.eq_ofNat_of_zero_le hrg.1
                have htn : t < n := by omega
                have hset := Lib.hid (Mc.cor_snoc (n := n) (Mc.ord_cls HVA.out).nd hal hbl)
                obtain ⟨x0, x1⟩ := hBk.out.at_ (k := t) (by rw [Mc.cor_len]; exact htn)
                obtain ⟨z, hzz⟩ : ∃ z, (Mc.cor (Mc.ord a) (Mc.ord b) n j)[t]?.getD 0 = z := ⟨_, rfl⟩
                rw [hzz] at x0
                have hB9 : Hid (Blk (wr.setCell ⟨gC, t, none⟩ (.int .i64 s2)) gC (Mc.cor (Mc.ord a) (Mc.ord b) n (j + 1))) := by
                  show Blk _ _ _
                  rw [hset.out]
                  exact hBk.out.set_ t s2
                have hb9 : Below wc.heap.size wc (wr.setCell ⟨gC, t, none⟩ (.int .i64 s2)) := hbr.setCell (by show wc.heap.size ≤ gC; exact hgC) _
                rw [Nat.zero_add] at hc1 hc2
                clear hal hbl hzz hs1 hs2 hBk hset
                go_wp2
                go_roundw
                case rel => exact ⟨j + 1, by omega, by go_num, hB9, hb9⟩
                case measure => simp [intOf]; omega
              · obtain rfl : j = na := by omega
                have hfin : Hid (IsoP w a b (.returned (.tuple #[.slice (some ⟨gC, 0, none⟩) n n, .bool true, .int .i64 0])) wr) := by
                  refine ⟨some ⟨gC, 0, none⟩, n, by rw [hE.out, HBV.out], by rw [hvV.out]; exact Mc.cor_len _ _ _ _, ?_, below_next hB4.out.bel hbr⟩
                  rw [hvV.out]
                  exact hBk.out.rd
                clear hBk
                go_wp2
                refine bodyPost_ret (v := .tuple #[.slice (some ⟨gC, 0, none⟩) n n, .bool true, .int .i64 0]) (by simp [results, Try.f70, go_sem]) rfl ?_
                exact hfin.out
end Go.Proofs.Ytnodnfailjmpeaa

namespace Go.Proofs.Ytnodnfailjmpeaa
open Go.RowKit
open Mc (Ed Ma)

/-- What Isomorphic hands back of isomorphic machines. -/
def IsoO (w : World) (a b : Ma) (e : Ending) (w' : World) : Prop := ∃ g k, e = .returned (.tuple #[.slice (some ⟨g, 0, none⟩) k k, .bool true, .int .i64 0]) ∧ Hid ((Mc.isoV a b).length = k) ∧ Hid (w.heap.size ≤ g) ∧ Hid (Blk w' g (Mc.isoV a b)) ∧ Below w.heap.size w w'
set_option maxRecDepth 100000 in
set_option maxHeartbeats 4000000 in
theorem wiso_own (a b : Ma) (A B : Option Addr) (n c k d : Nat) (w : World) (hr : RdR w A a.r) (hq : RdR w B b.r) (hn : a.r.length = n) (hk : b.r.length = k) (hnb : n ≤ 1000000) (hkb : k ≤ 1000000) (hrl : ∀ row ∈ a.r, row.length ≤ 1000000) (hql : ∀ row ∈ b.r, row.length ≤ 1000000) (hIB : Mc.isoB a b = true) :
    Calls Try.prog 70 #[.agg #[.int .i64 a.i, .int .i64 a.o, .slice A n c], .agg #[.int .i64 b.i, .int .i64 b.o, .slice B k d]] w (IsoO w a b) := by
  have HIB := Lib.hid hIB
  clear hIB
  have RL := Lib.hid hrl
  have QL := Lib.hid hql
  have HN := Lib.hid hn
  have HK := Lib.hid hk
  have h0 : B2 w a b A B n c k d ((boxM w a.i a.o A n c).alloc (.cells #[.int .i64 b.i, .int .i64 b.o, .slice B k d] 24)) :=
    ⟨((Below.refl _ _).alloc (Nat.le_refl _) _).alloc (by simp) _, (BxM.new w _ _ _ _ _).mvB ((Below.refl _ _).alloc (Nat.le_refl _) _), BxM.newE (w := boxM w a.i a.o A n c) (by simp) _ _ _ _ _⟩
  obtain ⟨q0, q1, q2⟩ := h0.ba.cells
  obtain ⟨z0, z1, z2⟩ := h0.bb.cells
  have H0 := Lib.hid h0
  clear hrl hql hn hk h0
  go_enter Try.func70, Try.ntmps70
  go_wp2
  clear q0 q1 q2 z0 z1 z2
  go_loopw [18] (fun v wr => ∃ j : Nat, j ≤ 2 ∧ v = .int .i64 j ∧ (1 ≤ j → Hid (Mc.chk a = 0)) ∧ (2 ≤ j → Hid (Mc.chk b = 0)) ∧ Hid (B2 w a b A B n c k d wr)) (fun v _ => 2 - (intOf v).toNat)
  case atStart => exact ⟨0, by omega, rfl, fun h => absurd h (by omega), fun h => absurd h (by omega), H0⟩
  case round =>
    obtain ⟨j, hj, rfl, h1, h2, hB⟩ := hrel
    clear H0
    have hj3 : j = 0 ∨ j = 1 ∨ j = 2 := by omega
    rcases hj3 with rfl | rfl | rfl
    · have HI0 := fun w => run_idx0 a.i a.o b.i b.o A B n c k d w
      have hB2 := hB.out.below ((Below.refl _ _).alloc (Nat.le_refl _) (.cells #[.int .i64 a.i, .int .i64 a.o, .slice A n c] 24))
      have C := wcheckE a.i a.o a.r A n c _ (hr.below hB2.bel) HN.out hnb RL.out
      have HB2 := Lib.hid hB2
      clear hB hB2 h1 h2
      go_wp2_with fail
      refine C.mono ?_
      rintro e w1 ⟨rfl, hb1⟩
      have HB3 := Lib.hid (HB2.out.below hb1)
      have hb3 := HB3.out.bel
      clear C hb1 HI0 HB2
      by_cases hz : Mc.chk a = 0
      · have hz' : Mc.chk ⟨a.i, a.o, a.r⟩ = 0 := hz
        have HZ := Lib.hid hz
        rw [hz']
        clear hz hz' hb3
        go_wp2
        go_roundw
        case rel => exact ⟨1, by omega, rfl, fun _ => HZ, fun h => absurd h (by omega), HB3⟩
        case measure => simp [intOf]
      · obtain ⟨z, hzz⟩ : ∃ z, Mc.chk ⟨a.i, a.o, a.r⟩ = z := ⟨_, rfl⟩
        have hz0 : z ≠ 0 := by rw [← hzz]; exact hz
        have hzn : (z != 0) = true := by simpa using hz0
        have hzb : (z == 0) = false := by rw [beq_eq_false_iff_ne]; exact hz0
        have hE : Mc.isoE a b = z := by unfold Mc.isoE; rw [if_pos hz]; exact hzz
        have hBf : Mc.isoB a b = false := by unfold Mc.isoB; rw [hE, if_pos hz0]
        exact absurd (HIB.out.symm.trans hBf) (by simp)
    · have HI1 := fun w => run_idx1 a.i a.o b.i b.o A B n c k d w
      have HZA := Lib.hid (h1 (by omega)).out
      have hB2 := hB.out.below ((Below.refl _ _).alloc (Nat.le_refl _) (.cells #[.int .i64 b.i, .int .i64 b.o, .slice B k d] 24))
      have C := wcheckE b.i b.o b.r B k d _ (hq.below hB2.bel) HK.out hkb QL.out
      have HB2 := Lib.hid hB2
      clear hB hB2 h1 h2
      go_wp2_with fail
      refine C.mono ?_
      rintro e w1 ⟨rfl, hb1⟩
      have HB3 := Lib.hid (HB2.out.below hb1)
      have hb3 := HB3.out.bel
      clear C hb1 HI1 HB2
      by_cases hz : Mc.chk b = 0
      · have hz' : Mc.chk ⟨b.i, b.o, b.r⟩ = 0 := hz
        have HZ := Lib.hid hz
        rw [hz']
        clear hz hz' hb3
        go_wp2
        go_roundw
        case rel => exact ⟨2, by omega, rfl, fun _ => HZA, fun _ => HZ, HB3⟩
        case measure => simp [intOf]
      · obtain ⟨z, hzz⟩ : ∃ z, Mc.chk ⟨b.i, b.o, b.r⟩ = z := ⟨_, rfl⟩
        have hz0 : z ≠ 0 := by rw [← hzz]; exact hz
        have hzn : (z != 0) = true := by simpa using hz0
        have hzb : (z == 0) = false := by rw [beq_eq_false_iff_ne]; exact hz0
        have hE : Mc.isoE a b = z := by unfold Mc.isoE; rw [if_neg (by rw [HZA.out]; simp)]; exact hzz
        have hBf : Mc.isoB a b = false := by unfold Mc.isoB; rw [hE, if_pos hz0]
        exact absurd (HIB.out.symm.trans hBf) (by simp)
    · have HZA := Lib.hid (h1 (by omega)).out
      have HZB := Lib.hid (h2 (by omega)).out
      have HVA := Lib.hid (Mc.val_of HZA.out)
      have HVB := Lib.hid (Mc.val_of HZB.out)
      have hE : Hid (Mc.isoE a b = 0) := by show _ = _; unfold Mc.isoE; rw [if_neg (by rw [HZA.out]; simp)]; exact HZB.out
      have COA : ∀ wz, Below w.heap.size w wz → Calls Try.prog 93 #[.agg #[.int .i64 a.i, .int .i64 a.o, .slice A n c]] wz (OrdP wz a) := fun wz h => by
        have := worder_any a A c wz HVA.out (hr.below h)
        rw [HN.out] at this
        exact this
      have COB : ∀ wz, Below w.heap.size w wz → Calls Try.prog 93 #[.agg #[.int .i64 b.i, .int .i64 b.o, .slice B k d]] wz (OrdP wz b) := fun wz h => by
        have := worder_any b B d wz HVB.out (hq.below h)
        rw [HK.out] at this
        exact this
      have HOA := Lib.hid COA
      have HOB := Lib.hid COB
      have hD := hB.out.below (Below.refl _ _).drew
      have HA0 := Lib.hid (COA _ hD.bel)
      have HB0 := Lib.hid (COB _ hD.bel)
      have HD := Lib.hid hD
      obtain ⟨q0, q1, q2⟩ := hB.out.ba.cells
      obtain ⟨z0, z1, z2⟩ := hB.out.bb.cells
      clear h1 h2 COA COB hD
      go_upto_region 8 with fail
      go_cut [10, 11] from 27 to 30 (fun u v wx => ∃ (g q g2 q2 : Nat), u = .slice (some ⟨g, 0, none⟩) q q ∧ v = .slice (some ⟨g2, 0, none⟩) q2 q2 ∧ Hid ((Mc.ord a).length = q) ∧ Hid ((Mc.ord b).length = q2) ∧ Hid (BlkC wx g (Mc.ord a)) ∧ Hid (BlkC wx g2 (Mc.ord b)) ∧ Hid (B2 w a b A B n c k d wx))
      case first =>
        go_region_held3 (fun w' => (w'.cell? ⟨w.heap.size, 0, none⟩ = some (.int .i64 a.i) ∧ w'.cell? ⟨w.heap.size, 1, none⟩ = some (.int .i64 a.o) ∧ w'.cell? ⟨w.heap.size, 2, none⟩ = some (.slice A n c)) ∧ w'.cell? ⟨w.heap.size + 1, 0, none⟩ = some (.int .i64 b.i) ∧ w'.cell? ⟨w.heap.size + 1, 1, none⟩ = some (.int .i64 b.o) ∧ w'.cell? ⟨w.heap.size + 1, 2, none⟩ = some (.slice B k d))
          (first | exact ⟨u2, v2⟩ | exact ⟨u1, v1⟩ | exact ⟨u4, v4⟩ | exact ⟨u3, v3⟩ | exact ⟨⟨q0, q1, q2⟩, z0, z1, z2⟩ | go_keep)
          (first
            | (go_at_call 93
               (with_reducible refine (HA0.out).mono ?_)
               rintro e wa ⟨gA, qA, rfl, hqA, _, hBA, hbA⟩
               have s1 := HD.out.below hbA
               have u1 := s1.ba.cells
               have v1 := s1.bb.cells
               have HAB := Lib.hid (HOB.out wa s1.bel)
               dsimp only)
            | (go_at_call 93
               (with_reducible refine (HAB.out).mono ?_)
               rintro e wb ⟨gB, qB, rfl, hqB, _, hBB, hbB⟩
               have s2 := s1.below hbB
               have u2 := s2.ba.cells
               have v2 := s2.bb.cells
               have hBA2 := hBA.out.below hbB
               dsimp only)
            | (go_at_call 93
               (with_reducible refine (HB0.out).mono ?_)
               rintro e wa ⟨gB, qB, rfl, hqB, _, hBB, hbB⟩
               have s3 := HD.out.below hbB
               have u3 := s3.ba.cells
               have v3 := s3.bb.cells
               have HBA := Lib.hid (HOA.out wa s3.bel)
               dsimp only)
            | (go_at_call 93
               (with_reducible refine (HBA.out).mono ?_)
               rintro e wb ⟨gA, qA, rfl, hqA, _, hBA, hbA⟩
               have s4 := s3.below hbA
               have u4 := s4.ba.cells
               have v4 := s4.bb.cells
               have hBB2 := hBB.out.below hbA
               dsimp only)
            | fail)
        all_goals
          go_wp2_with fail
          go_meet
          first
            | exact ⟨gA, qA, gB, qB, rfl, rfl, hqA, hqB, hBA2, hBB, s2⟩
            | exact ⟨gA, qA, gB, qB, rfl, rfl, hqA, hqB, hBA, hBB2, s4⟩
            | fail
      case rest =>
        obtain ⟨ga, na, gb, nb, rfl, rfl, hqa, hqb, hBa, hBb, hB3⟩ := hcut
        clear q0 q1 q2 z0 z1 z2 HA0 HB0 HD hB
        have CRA : ∀ wz, Below wc.heap.size wc wz → Calls Try.prog 92 #[.agg #[.int .i64 a.i, .int .i64 a.o, .slice A n c], .slice (some ⟨ga, 0, none⟩) na na] wz (RnP wz a (Mc.ord a)) := fun wz h => by
          have := renum_any a HVA.out (Mc.ord a) (Mc.ord_cls HVA.out) A c (some ⟨ga, 0, none⟩) na na wz (hr.below (below_next hB3.out.bel h)) (hBa.out.below h).rd hqa.out (by rw [← hqa.out]; exact Mc.ord_pos HVA.out)
          rw [HN.out] at this
          exact this
        have CRB : ∀ wz, Below wc.heap.size wc wz → Calls Try.prog 92 #[.agg #[.int .i64 b.i, .int .i64 b.o, .slice B k d], .slice (some ⟨gb, 0, none⟩) nb nb] wz (RnP wz b (Mc.ord b)) := fun wz h => by
          have := renum_any b HVB.out (Mc.ord b) (Mc.ord_cls HVB.out) B d (some ⟨gb, 0, none⟩) nb nb wz (hq.below (below_next hB3.out.bel h)) (hBb.out.below h).rd hqb.out (by rw [← hqb.out]; exact Mc.ord_pos HVB.out)
          rw [HK.out] at this
          exact this
        have CSM := fun (wz : World) (p p2 k1 k2 : Nat) h1 h2 => isoSame a b HVA.out HVB.out wz p p2 k1 k2 h1 h2
        have HRA := Lib.hid CRA
        have HRB := Lib.hid CRB
        have HSM := Lib.hid CSM
        have HA0 := Lib.hid (CRA _ (Below.refl _ _).drew)
        have HB0 := Lib.hid (CRB _ (Below.refl _ _).drew)
        have hiso : Hid (Mc.isoB a b = decide (Mc.prt a (Mc.ord a) = Mc.prt b (Mc.ord b))) := by
          show _ = _
          unfold Mc.isoB
          rw [hE.out, if_neg (by simp)]
        obtain ⟨q0, q1, q2⟩ := hB3.out.ba.cells
        obtain ⟨z0, z1, z2⟩ := hB3.out.bb.cells
        have hD := Lib.hid (hB3.out.below (Below.refl _ _).drew)
        have bD : Below wc.heap.size wc wc.drew := (Below.refl _ _).drew
        clear CRA CRB CSM HOA HOB
        go_upto_region 9 with fail
        go_cut [38] from 31 to 37 (fun v wx => v = .bool (!(Mc.isoB a b)) ∧ Hid (BlkC wx ga (Mc.ord a)) ∧ Hid (BlkC wx gb (Mc.ord b)) ∧ Hid (B2 w a b A B n c k d wx))
        case first =>
          go_region_held3 (fun w' => (w'.cell? ⟨w.heap.size, 0, none⟩ = some (.int .i64 a.i) ∧ w'.cell? ⟨w.heap.size, 1, none⟩ = some (.int .i64 a.o) ∧ w'.cell? ⟨w.heap.size, 2, none⟩ = some (.slice A n c)) ∧ w'.cell? ⟨w.heap.size + 1, 0, none⟩ = some (.int .i64 b.i) ∧ w'.cell? ⟨w.heap.size + 1, 1, none⟩ = some (.int .i64 b.o) ∧ w'.cell? ⟨w.heap.size + 1, 2, none⟩ = some (.slice B k d))
            (first | exact ⟨u6, v6⟩ | exact ⟨u5, v5⟩ | exact ⟨u2, v2⟩ | exact ⟨u1, v1⟩ | exact ⟨u4, v4⟩ | exact ⟨u3, v3⟩ | exact ⟨⟨q0, q1, q2⟩, z0, z1, z2⟩ | go_keep)
            (first
              | (go_at_call 92
                 (with_reducible refine (HA0.out).mono ?_)
                 rintro e wa ⟨pA, kA, gsA, rfl, hkA, hgA, hWA, hbA⟩
                 have s1 := hD.out.below hbA
                 have u1 := s1.ba.cells
                 have v1 := s1.bb.cells
                 have t1 := below_next bD hbA
                 have HAB := Lib.hid (HRB.out wa t1)
                 dsimp only)
              | (go_at_call 92
                 (with_reducible refine (HAB.out).mono ?_)
                 rintro e wb ⟨pB, kB, gsB, rfl, hkB, hgB, hWB, hbB⟩
                 have s2 := s1.below hbB
                 have u2 := s2.ba.cells
                 have v2 := s2.bb.cells
                 have t2 := below_next t1 hbB
                 have HS1 := Lib.hid (HSM.out wb pA pB kA kB ⟨gsA, hgA.out, hkA.out, (hWA.out.below hbB).lower (Nat.zero_le _)⟩ ⟨gsB, hgB.out, hkB.out, hWB.out.lower (Nat.zero_le _)⟩)
                 dsimp only)
              | (go_at_call 92
                 (with_reducible refine (HB0.out).mono ?_)
                 rintro e wa ⟨pB, kB, gsB, rfl, hkB, hgB, hWB, hbB⟩
                 have s3 := hD.out.below hbB
                 have u3 := s3.ba.cells
                 have v3 := s3.bb.cells
                 have t3 := below_next bD hbB
                 have HBA := Lib.hid (HRA.out wa t3)
                 dsimp only)
              | (go_at_call 92
                 (with_reducible refine (HBA.out).mono ?_)
                 rintro e wb ⟨pA, kA, gsA, rfl, hkA, hgA, hWA, hbA⟩
                 have s4 := s3.below hbA
                 have u4 := s4.ba.cells
                 have v4 := s4.bb.cells
                 have t4 := below_next t3 hbA
                 have HS2 := Lib.hid (HSM.out wb pA pB kA kB ⟨gsA, hgA.out, hkA.out, hWA.out.lower (Nat.zero_le _)⟩ ⟨gsB, hgB.out, hkB.out, (hWB.out.below hbA).lower (Nat.zero_le _)⟩)
                 dsimp only)
              | (go_at_call 94
                 (with_reducible refine (HS1.out).mono ?_)
                 rintro e we ⟨rfl, hbE⟩
                 have s5 := s2.below hbE
                 have u5 := s5.ba.cells
                 have v5 := s5.bb.cells
                 have t5 := below_next t2 hbE
                 dsimp only)
              | (go_at_call 94
                 (with_reducible refine (HS2.out).mono ?_)
                 rintro e we ⟨rfl, hbE⟩
                 have s6 := s4.below hbE
                 have u6 := s6.ba.cells
                 have v6 := s6.bb.cells
                 have t6 := below_next t4 hbE
                 dsimp only)
              | fail)
          all_goals
            go_wp2_with fail
            go_meet
            first
              | exact ⟨by rw [hiso.out], hBa.out.below t5, hBb.out.below t5, s5⟩
              | exact ⟨by rw [hiso.out], hBa.out.below t6, hBb.out.below t6, s6⟩
              | fail
        case rest =>
          obtain ⟨rfl, hCa, hCb, hB4⟩ := hcut
          clear q0 q1 q2 z0 z1 z2 HA0 HB0 hD bD HRA HRB HSM hB3 hBa hBb hiso
          cases hbv : Mc.isoB a b with
          | false =>
            exact absurd (HIB.out.symm.trans hbv) (by simp)
          | true =>
            have hpe : Mc.prt a (Mc.ord a) = Mc.prt b (Mc.ord b) := by
              unfold Mc.isoB at hbv
              rw [hE.out, if_neg (by simp)] at hbv
              exact of_decide_eq_true hbv
            have hnn : na = nb := by
              have h1 := congrArg (fun m : Ma => m.r.length) hpe
              simp only [Mc.prt_len] at h1
              rw [hqa.out, hqb.out] at h1
              exact h1
            subst hnn
            have hvV : Hid (Mc.isoV a b = Mc.cor (Mc.ord a) (Mc.ord b) n na) := by
              show _ = _
              unfold Mc.isoV
              rw [hbv, if_pos rfl, HN.out, hqa.out]
            have HBV := Lib.hid hbv
            have hn64 : n ≤ 64 := by rw [← HN.out]; exact HVA.out.r1
            have hna64 : na ≤ 64 := by
              have h1 := Mc.nodup_le a.r.length _ (Mc.ord_cls HVA.out).nd (Mc.ord_cls HVA.out).rg
              rw [hqa.out, HN.out] at h1
              omega
            obtain ⟨q0, q1, q2⟩ := hB4.out.ba.cells
            clear hpe hbv
            go_wp2_with fail
            refine (nones_any n wc (by omega)).mono ?_
            rintro e w5 ⟨gC, rfl, hgC, hBk, hb5⟩
            have hC0 : Hid (Blk w5 gC (Mc.cor (Mc.ord a) (Mc.ord b) n 0)) := by show Blk _ _ _; rw [Mc.cor_zero]; exact hBk
            clear hBk q0 q1 q2
            go_wp2
            go_loopw [45] (fun v wr => ∃ j : Nat, j ≤ na ∧ v = .int .i64 j ∧ Hid (Blk wr gC (Mc.cor (Mc.ord a) (Mc.ord b) n j)) ∧ Below wc.heap.size wc wr) (fun v _ => na - (intOf v).toNat)
            case atStart => exact ⟨0, Nat.zero_le _, rfl, hC0, hb5⟩
            case round =>
              obtain ⟨j, hj, rfl, hBk, hbr⟩ := hrel
              clear hC0 hb5
              by_cases hlt : j < na
              · obtain ⟨b1, off1, s1, he1, _, hc1, hs1⟩ := (hCa.out.below hbr).rd.at_ (k := j) (by rw [hqa.out]; exact hlt)
                injection he1 with he1
                injection he1 with e1 e2
                subst e1 e2
                obtain ⟨b2, off2, s2, he2, _, hc2, hs2⟩ := (hCb.out.below hbr).rd.at_ (k := j) (by rw [hqb.out]; exact hlt)
                injection he2 with he2
                injection he2 with e3 e4
                subst e3 e4
                have hal : (Mc.ord a)[j]? = some s1 := by
                  have := hs1.out
                  rw [List.getElem?_eq_getElem (by rw [hqa.out]; exact hlt)] at this ⊢
                  exact congrArg some this
                have hbl : (Mc.ord b)[j]? = some s2 := by
                  have := hs2.out
                  rw [List.getElem?_eq_getElem (by rw [hqb.out]; exact hlt)] at this ⊢
                  exact congrArg some this
                have hrg := (Mc.ord_cls HVA.out).rg s1 (List.mem_of_getElem? hal)
                rw [HN.out] at hrg
                obtain ⟨t, rfl⟩ := Int.eq_ofNat_of_zero_le hrg.1
                have htn : t < n := by omega
                have hset := Lib.hid (Mc.cor_snoc (n := n) (Mc.ord_cls HVA.out).nd hal hbl)
                obtain ⟨x0, x1⟩ := hBk.out.at_ (k := t) (by rw [Mc.cor_len]; exact htn)
                obtain ⟨z, hzz⟩ : ∃ z, (Mc.cor (Mc.ord a) (Mc.ord b) n j)[t]?.getD 0 = z := ⟨_, rfl⟩
                rw [hzz] at x0
                have hB9 : Hid (Blk (wr.setCell ⟨gC, t, none⟩ (.int .i64 s2)) gC (Mc.cor (Mc.ord a) (Mc.ord b) n (j + 1))) := by
                  show Blk _ _ _
                  rw [hset.out]
                  exact hBk.out.set_ t s2
                have hb9 : Below wc.heap.size wc (wr.setCell ⟨gC, t, none⟩ (.int .i64 s2)) := hbr.setCell (by show wc.heap.size ≤ gC; exact hgC) _
                rw [Nat.zero_add] at hc1 hc2
                clear hal hbl hzz hs1 hs2 hBk hset
                go_wp2
                go_roundw
                case rel => exact ⟨j + 1, by omega, by go_num, hB9, hb9⟩
                case measure => simp [intOf]; omega
              · obtain rfl : j = na := by omega
                have hfin : Hid (IsoO w a b (.returned (.tuple #[.slice (some ⟨gC, 0, none⟩) n n, .bool true, .int .i64 0])) wr) := by
                  refine ⟨gC, n, rfl, by rw [hvV.out]; exact Mc.cor_len _ _ _ _, ?_, ?_, below_next hB4.out.bel hbr⟩
                  · have h1 := hB4.out.bel.size
                    have h2 := hgC
                    show w.heap.size ≤ gC
                    omega
                  · rw [hvV.out]
                    exact hBk.out
                clear hBk
                go_wp2
                refine bodyPost_ret (v := .tuple #[.slice (some ⟨gC, 0, none⟩) n n, .bool true, .int .i64 0]) (by simp [results, Try.f70, go_sem]) rfl ?_
                exact hfin.out
end Go.Proofs.Ytnodnfailjmpeaa
