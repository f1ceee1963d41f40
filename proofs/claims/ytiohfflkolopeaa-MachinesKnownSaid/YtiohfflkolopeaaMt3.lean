/-
  The walk of the law MachinesWith. No statement is proved here.
-/
import Derived.Test.YtiohfflkolopeaaMc12
import Derived.Test.YtiohfflkolopeaaMs2
import Derived.Test.YtiohfflkolopeaaMt2
import Derived.StillTailTactics
namespace Go.Proofs.Ytiohfflkolopeaa
open Go.RowKit
open Mc (Ed Ma)

theorem copy_at (m : Ma) (i o : Int) (A : Option Addr) (n c : Nat) (w : World) (hr : RdR w A m.r) (hi : m.i = i) (ho : m.o = o) (hn : m.r.length = n) (hl : n ≤ 1000000) (h0 : ∀ row ∈ m.r, 0 < row.length ∧ row.length ≤ 1000000) :
    Calls Try.prog 35 #[.agg #[.int .i64 i, .int .i64 o, .slice A n c]] w fun e w' => ∃ B k vs, e = .returned (.agg #[.int .i64 i, .int .i64 o, .slice B n k]) ∧ Hid (Bld w' w.heap.size (.slice B n k) m.r vs) ∧ Hid (Dst vs) ∧ Below w.heap.size w w' := by
  subst hi ho hn
  exact (copy_any m A c w hr hl h0).mono fun e w' h => h
theorem rmsame_at (a b : Ma) (i o i' o' : Int) (A B : Option Addr) (n c k d : Nat) (w : World) (hi : a.i = i) (ho : a.o = o) (hi' : b.i = i') (ho' : b.o = o') (hn : a.r.length = n) (hk : b.r.length = k) (ha : RdR w A a.r) (hb : RdR w B b.r) (hl : n ≤ 1000000) (hl2 : ∀ row ∈ a.r, row.length ≤ 1000000) :
    Calls Try.prog 36 #[.agg #[.int .i64 i, .int .i64 o, .slice A n c], .agg #[.int .i64 i', .int .i64 o', .slice B k d]] w fun e w' => e = .returned (.bool (decide (a = b))) ∧ Below w.heap.size w w' := by
  subst hi ho hi' ho' hn hk
  exact rmsame_any a b A B c d w ha hb hl hl2
theorem rmsame_yes (a : Ma) (i o : Int) (A B : Option Addr) (n c d : Nat) (w : World) (hi : a.i = i) (ho : a.o = o) (hn : a.r.length = n) (ha : RdR w A a.r) (hb : RdR w B a.r) (hl : n ≤ 1000000) (hl2 : ∀ row ∈ a.r, row.length ≤ 1000000) :
    Calls Try.prog 36 #[.agg #[.int .i64 i, .int .i64 o, .slice A n c], .agg #[.int .i64 i, .int .i64 o, .slice B n d]] w fun e w' => e = .returned (.bool true) ∧ Below w.heap.size w w' := by
  have := rmsame_at a a i o i o A B n c n d w hi ho hi ho hn hn ha hb hl hl2
  rwa [show decide (a = a) = true by simp] at this
theorem rmcheck_at (m : Ma) (i o : Int) (A : Option Addr) (n c : Nat) (w : World) (hi : m.i = i) (ho : m.o = o) (hn : m.r.length = n) (hr : RdR w A m.r) (hl : n ≤ 1000000) :
    Calls Try.prog 11 #[.agg #[.int .i64 i, .int .i64 o, .slice A n c]] w fun e w' => e = .returned (.int .i64 (Mc.chk m)) ∧ Below w.heap.size w w' := by
  subst hi ho hn
  exact rmcheck_any m A c w hr hl

set_option maxRecDepth 100000 in
set_option maxHeartbeats 4000000 in
theorem lawWith_walk {E : World → Prop} (P : Pm E) (a b d : Int) (p : Bool) (A : Option Addr) (c : Nat) (es : List Int) (p0 p1 tx ty : Int) (w : World) (he : E w) (hr : Rd16 w A es) (hl : es.length ≤ 9223372036854775807)
    (ha : 0 ≤ a ∧ a ≤ 255) (hb : 0 ≤ b ∧ b ≤ 255) (hd : 0 ≤ d ∧ d ≤ 255) (hp0 : 0 ≤ p0 ∧ p0 ≤ 255) (hp1 : 0 ≤ p1 ∧ p1 ≤ 255) :
    Calls Try.prog 7 #[.agg #[.int .u8 a, .int .u8 b, .int .u8 d, .bool p, .slice A es.length c], .agg #[.int .u8 p0, .int .u8 p1], .agg #[.int .i64 tx, .int .i64 ty]] w fun e w' => e = .returned (.bool true) ∧ Below w.heap.size w w' := by
  obtain ⟨n, hn⟩ : ∃ n : Nat, 1 + a % 6 = n := ⟨(1 + a % 6).toNat, by omega⟩
  obtain ⟨i, hi⟩ : ∃ i : Nat, 1 + b % 3 = i := ⟨(1 + b % 3).toNat, by omega⟩
  obtain ⟨o, ho⟩ : ∃ o : Nat, 1 + d % 3 = o := ⟨(1 + d % 3).toNat, by omega⟩
  have CM := fun w hr => mof_at a b d p A c es n i o w hr hl ha hb hd hn hi ho
  have hn1 : 1 ≤ n := by omega
  have hi1 : 1 ≤ i := by omega
  have hn6 : n ≤ 6 := by omega
  have hi3 : i ≤ 3 := by omega
  obtain ⟨M, hM⟩ : ∃ M, Mc.mkN p n i o es = M := ⟨_, rfl⟩
  have V := Lib.hid (Mc.mkN_val (p := p) (n := n) (i := i) (o := o) (es := es) (by omega) (by omega) (by omega) (by omega) (by omega) (by omega))
  have hlen : Hid ((Mc.mkN p n i o es).r.length = n) := Mc.mkN_len _ _ _ _ _
  have hmi : Hid ((Mc.mkN p n i o es).i = i) := rfl
  have hmo : Hid ((Mc.mkN p n i o es).o = o) := rfl
  rw [hM] at V hlen hmi hmo
  simp only [hM] at CM
  clear hM ha hb hd hn hi ho hl
  have hrow := Lib.hid (fun row (hrow : row ∈ M.r) => (show 0 < row.length ∧ row.length ≤ 1000000 by have := V.out.len row hrow; have h2 := V.out.i1; have h3 := V.out.i0; omega))
  obtain ⟨s, hs, hsn⟩ : ∃ s : Nat, p0.tmod (n : Int) = s ∧ s < n := ⟨(p0.tmod (n : Int)).toNat, by rw [Int.tmod_eq_emod_of_nonneg hp0.1]; have := Int.emod_nonneg p0 (show (n : Int) ≠ 0 by omega); omega, by rw [Int.tmod_eq_emod_of_nonneg hp0.1]; have := Int.emod_lt_of_pos p0 (show (0 : Int) < n by omega); have := Int.emod_nonneg p0 (show (n : Int) ≠ 0 by omega); omega⟩
  obtain ⟨k, hk, hki⟩ : ∃ k : Nat, p1.tmod (i : Int) = k ∧ k < i := ⟨(p1.tmod (i : Int)).toNat, by rw [Int.tmod_eq_emod_of_nonneg hp1.1]; have := Int.emod_nonneg p1 (show (i : Int) ≠ 0 by omega); omega, by rw [Int.tmod_eq_emod_of_nonneg hp1.1]; have := Int.emod_lt_of_pos p1 (show (0 : Int) < i by omega); have := Int.emod_nonneg p1 (show (i : Int) ≠ 0 by omega); omega⟩
  obtain ⟨row, hrs⟩ : ∃ row, M.r[s]? = some row := ⟨_, List.getElem?_eq_getElem (by rw [hlen.out]; exact hsn)⟩
  have hrl : row.length = i := by have := V.out.len row (List.mem_of_getElem? hrs); rw [hmi.out] at this; omega
  obtain ⟨⟨yx, yy⟩, hrk⟩ : ∃ y, row[k]? = some y := ⟨_, List.getElem?_eq_getElem (by omega)⟩
  obtain ⟨M', hM'⟩ : ∃ M', Mc.wth M s k (tx, ty) = M' := ⟨_, rfl⟩
  have hM'r : Hid (M'.r = M.r.set s (row.set k (tx, ty))) := by show _ = _; rw [← hM', Mc.wth_r hrs]
  have hlen' : Hid (M'.r.length = n) := by show _ = _; rw [hM'r.out, List.length_set]; exact hlen.out
  have hmi' : Hid (M'.i = i) := by show _ = _; rw [← hM']; exact hmi.out
  have hmo' : Hid (M'.o = o) := by show _ = _; rw [← hM']; exact hmo.out
  obtain ⟨f, hf⟩ : ∃ f, Mc.chk M' = f := ⟨_, rfl⟩
  have hwE : Hid (Mc.wiE M s k (tx, ty) = f) := by show _ = _; rw [Mc.wiE_in V.out hrs (by omega), hM', hf]
  have hwV : Hid (f = 0 → Mc.wiV M s k (tx, ty) = M') := fun h => by rw [Mc.wiV_yes (by rw [hwE.out]; exact h), hM']
  have hwN : Hid (f ≠ 0 → Mc.wiV M s k (tx, ty) = ⟨0, 0, []⟩) := fun h => Mc.wiV_no (by rw [hwE.out]; exact h)
  obtain ⟨β, hβ⟩ : ∃ β, ((yx == tx) && (yy == ty)) = β := ⟨_, rfl⟩
  have hβ1 : Hid (decide (M' = M) = β) := by
    show _ = _
    rw [← hβ, ← hM']
    rw [Bool.eq_iff_iff]
    simp only [decide_eq_true_eq, Mc.wth_eq hrs hrk, Bool.and_eq_true, beq_iff_eq, Prod.mk.injEq]
  have hβ2 : Hid (decide (M = M') = β) := by show _ = _; rw [← hβ1.out]; simp only [eq_comm]
  have HRS := Lib.hid hrs
  have HRK := Lib.hid hrk
  have HRL := Lib.hid hrl
  have HB := Lib.hid hβ
  have HF := Lib.hid hf
  have HM' := Lib.hid hM'
  have HS := Lib.hid hs
  have HK := Lib.hid hk
  clear hrs hrk hrl hβ hf hM' hs hk
  have s0 := MK.start he
  have HR := Lib.hid hr
  clear he hr
  go_enter Try.func7, Try.ntmps7
  have s1 := (((s0.alloc P (.cells #[.int .u8 a, .int .u8 b, .int .u8 d, .bool p, .slice A es.length c] 57)).alloc P (.cells #[.int .u8 p0, .int .u8 p1] 70)).putO (g := w.heap.size + 1) (by
      have h := heap_alloc_new (w.alloc (.cells #[.int .u8 a, .int .u8 b, .int .u8 d, .bool p, .slice A es.length c] 57)) (.cells #[.int .u8 p0, .int .u8 p1] 70)
      rw [show (w.alloc (.cells #[.int .u8 a, .int .u8 b, .int .u8 d, .bool p, .slice A es.length c] 57)).heap.size = w.heap.size + 1 by simp] at h
      exact h)).alloc P (.cells #[.int .i64 tx, .int .i64 ty] 39) |>.putE (g := w.heap.size + 2) (x := tx) (y := ty) (by
      have h := heap_alloc_new ((w.alloc (.cells #[.int .u8 a, .int .u8 b, .int .u8 d, .bool p, .slice A es.length c] 57)).alloc (.cells #[.int .u8 p0, .int .u8 p1] 70)) (.cells #[.int .i64 tx, .int .i64 ty] 39)
      rw [show ((w.alloc (.cells #[.int .u8 a, .int .u8 b, .int .u8 d, .bool p, .slice A es.length c] 57)).alloc (.cells #[.int .u8 p0, .int .u8 p1] 70)).heap.size = w.heap.size + 2 by simp] at h
      exact h)
  clear s0
  go_wp2_with fail
  refine (CM _ (HR.out.below s1.2.1)).mono ?_
  rintro e w1 ⟨R, c1, rfl, hrd, hbl⟩
  have s2 := (((s1.next P hbl).putR hrd).alloc P (.cells #[.int .i64 i, .int .i64 o, .slice R n c1] 24)).putB (g := w1.heap.size) (heap_alloc_new w1 _)
  clear s1 hrd hbl CM HR
  go_wp2_with fail
  refine (copy_at M i o R n c1 _ (s2.get 1 rfl) hmi.out hmo.out hlen.out (by omega) hrow.out).mono ?_
  rintro e w2 ⟨B2, c2, vs2, rfl, hB2, _, hbl⟩
  have s3 := (((s2.next P hbl).putR hB2.out.two).alloc P (.cells #[.int .i64 i, .int .i64 o, .slice B2 n c2] 24)).putB (g := w2.heap.size) (heap_alloc_new w2 _)
  clear s2 hbl hB2
  go_wp2_with fail
  obtain ⟨W, hW⟩ : ∃ W, w2.alloc (.cells #[.int .i64 i, .int .i64 o, .slice B2 n c2] 24) = W := ⟨_, rfl⟩
  rw [hW] at s3 ⊢
  clear hW
  have hpl : W.heap[w.heap.size + 1]? = some (.cells #[.int .u8 p0, .int .u8 p1] 70) := s3.get 5 rfl
  have l0 : W.cell? ⟨w.heap.size + 1, 0, none⟩ = some (.int .u8 p0) := by rw [cell_of_row _ _ _ _ _ _ hpl]; rfl
  have l1 : W.cell? ⟨w.heap.size + 1, 1, none⟩ = some (.int .u8 p1) := by rw [cell_of_row _ _ _ _ _ _ hpl]; rfl
  obtain ⟨m0, m1, m2⟩ := BxM.cells (s3.get 2 rfl)
  have hw0 : IntKind.i64.wrap p0 = p0 := IntWalk.i64_in _ (by omega)
  have hw1 : IntKind.i64.wrap p1 = p1 := IntWalk.i64_in _ (by omega)
  have hn0 : ((n : Int) == 0) = false := by rw [beq_eq_false_iff_ne]; omega
  have hi0 : ((i : Int) == 0) = false := by rw [beq_eq_false_iff_ne]; omega
  have hn0a : ¬ n = 0 := by omega
  have hi0a : ¬ i = 0 := by omega
  have hs' := HS.out
  have hk' := HK.out
  clear hpl
  go_quiet (fail)
  clear l0 l1 m0 m1 m2 hw0 hw1 hn0 hi0 hn0a hi0a hs' hk'
  have s4 := s3.next P (below_drewN' (Below.refl _ _) nq)
  clear s3
  obtain ⟨W4, hW4⟩ : ∃ W4, W.drewN nq = W4 := ⟨_, rfl⟩
  rw [hW4] at s4 ⊢
  clear hW4
  have mm : (⟨i, o, M.r⟩ : Ma) = M := by rw [← hmi.out, ← hmo.out]
  obtain ⟨G, hG⟩ : ∃ G, Mc.wiV M s k (tx, ty) = G := ⟨_, rfl⟩
  have CW := P.with_ i o s k tx ty M.r R n c1 W4 s4.1 (s4.get 3 rfl) hlen.out (by omega) (fun row h => (hrow.out row h).2)
  simp only [mm, hwE.out, hG] at CW
  have HG := Lib.hid hG
  clear hG mm
  obtain ⟨m0, m1, m2⟩ := BxM.cells (s4.get 2 rfl)
  obtain ⟨t0, t1, _, _⟩ := BxE.cells (s4.get 4 rfl)
  go_wp2_with fail
  refine CW.mono ?_
  rintro e w3 ⟨B3, j, vs3, rfl, hj, hB3, hbl⟩
  have hWa := s4.2.1
  have s5 := ((((s4.next P hbl).putR hB3.out.two).put (P := fun w => Bld w W4.heap.size (.slice B3 j j) G.r vs3) (fun _ _ h hb => h.below hb) hB3.out).alloc P (.cells #[.int .i64 G.i, .int .i64 G.o, .slice B3 j j] 24)).putB (g := w3.heap.size) (heap_alloc_new w3 _)
  have hb5 : Below W4.heap.size W4 (w3.alloc (.cells #[.int .i64 G.i, .int .i64 G.o, .slice B3 j j] 24)) := hbl.alloc hbl.size _
  clear CW hbl hB3 m0 m1 m2 t0 t1
  obtain ⟨W5, hW5⟩ : ∃ W5, w3.alloc (.cells #[.int .i64 G.i, .int .i64 G.o, .slice B3 j j] 24) = W5 := ⟨_, rfl⟩
  rw [hW5] at s5 hb5
  obtain ⟨m0, m1, m2⟩ := BxM.cells (s5.get 5 rfl)
  go_wp2_with fail
  clear hW5
  refine (copy_at M i o R n c1 _ (s5.get 6 rfl) hmi.out hmo.out hlen.out (by omega) hrow.out).mono ?_
  rintro e w4 ⟨B4, c4, vs4, rfl, hB4, hD4, hbl⟩
  have s6 := ((s5.next P hbl).alloc P (.cells #[.int .i64 i, .int .i64 o, .slice B4 n c4] 24)).putB (g := w4.heap.size) (heap_alloc_new w4 _)
  have hB5 := Lib.hid (hB4.out.below ((Below.refl _ _).alloc (Nat.le_refl _) (.cells #[.int .i64 i, .int .i64 o, .slice B4 n c4] 24)))
  have hb6 : Below W5.heap.size W5 (w4.alloc (.cells #[.int .i64 i, .int .i64 o, .slice B4 n c4] 24)) := hbl.alloc hbl.size _
  clear hbl hB4 m0 m1 m2
  go_wp2_with fail
  obtain ⟨W6, hW6⟩ : ∃ W6, w4.alloc (.cells #[.int .i64 i, .int .i64 o, .slice B4 n c4] 24) = W6 := ⟨_, rfl⟩
  rw [hW6] at s6 hB5 hb6 ⊢
  clear hW6
  obtain ⟨pb, g, cc, rfl, hpb, hpl, hgb, hgl, hpg, hpc, hgc, hgd, hfc, hfd, hvs, hcur⟩ := hB5.out.edge HRS.out HRK.out
  obtain ⟨m0, m1, m2⟩ := BxM.cells (s6.get 0 rfl)
  obtain ⟨t0, t1, _, _⟩ := BxE.cells (s6.get 8 rfl)
  have hrl := HRL.out
  rw [hrl] at hpc
  clear hrl
  have hsn' : (s : Int) < n := by omega
  have hki' : (k : Int) < i := by omega
  go_still_tail 8, (by kernel_rfl)
  change wpList _ _ _ _ _ W6.drew
  have hne : w4.heap.size ≠ g := fun e => by
    obtain ⟨cur, hcu⟩ := hcur.out
    have := s6.get 0 rfl
    unfold BxM at this
    rw [e, hcu] at this
    simp at this
  have hb8 : Below W5.heap.size W5 ((W6.setCell ⟨g, k * 2, none⟩ (.int .i64 tx)).setCell ⟨g, k * 2 + 1, none⟩ (.int .i64 ty)).drew := ((hb6.setCell (p := ⟨g, k * 2, none⟩) hgb _).setCell (p := ⟨g, k * 2 + 1, none⟩) hgb _).drew
  have hG13 : BxM ((W6.setCell ⟨g, k * 2, none⟩ (.int .i64 tx)).setCell ⟨g, k * 2 + 1, none⟩ (.int .i64 ty)).drew w4.heap.size i o (some ⟨pb, 0, none⟩) n c4 := (Below.heap_setCell _ _ _ _ hne).trans ((Below.heap_setCell _ _ _ _ hne).trans (s6.get 0 rfl))
  have hB8 : Bld ((W6.setCell ⟨g, k * 2, none⟩ (.int .i64 tx)).setCell ⟨g, k * 2 + 1, none⟩ (.int .i64 ty)).drew W5.heap.size (.slice (some ⟨pb, 0, none⟩) n c4) M'.r vs4 := by
    rw [hM'r.out]
    exact Bld.setE (w := W6) (x := (tx, ty)) hB5.out hD4.out HRS.out (by rw [HRL.out]; exact hki) hvs.out
  have s8 := ((s5.next P hb8).putR hB8.two).putB hG13
  have hT := hb5.trans (hb8.mono hb5.size)
  clear s6 hB5 hb6 hb8 hG13 hB8 hD4 hvs hcur hne
  go_upto_region 7 with fail
  clear hpc hgc hgd hfc hfd hgl hpl hpb hgb hpg m0 m1 m2 t0 t1
  obtain ⟨W8, hW8⟩ : ∃ W8, ((W6.setCell ⟨g, k * 2, none⟩ (.int .i64 tx)).setCell ⟨g, k * 2 + 1, none⟩ (.int .i64 ty)).drew = W8 := ⟨_, rfl⟩
  rw [hW8] at s8 hT ⊢
  clear hW8
  obtain ⟨m0, m1, m2⟩ := BxM.cells (s8.get 7 rfl)
  obtain ⟨o0, o1, o2⟩ := BxM.cells (s8.get 5 rfl)
  go_wp2_with fail
  have CS := fun w ha hb => rmsame_yes M i o R B2 n c1 c2 w hmi.out hmo.out hlen.out ha hb (by omega) (fun row h => (hrow.out row h).2)
  refine (CS _ (s8.get 8 rfl) (s8.get 6 rfl)).mono ?_
  rintro e w9 ⟨rfl, hbl⟩
  have s9 := s8.next P hbl
  have hT9 := below_next hT hbl
  clear s8 hbl m0 m1 m2 o0 o1 o2
  obtain ⟨m0, m1, m2⟩ := BxM.cells (s9.get 0 rfl)
  go_wp2_with fail
  have CC := rmcheck_at M' i o (some ⟨pb, 0, none⟩) n c4 w9 hmi'.out hmo'.out hlen'.out (s9.get 1 rfl) (by omega)
  rw [HF.out] at CC
  refine CC.mono ?_
  rintro e w10 ⟨rfl, hbl⟩
  have s10 := s9.next P hbl
  have hT10 := below_next hT9 hbl
  clear s9 hbl m0 m1 m2 CC
  have hff : (f == f) = true := beq_self_eq_true _
  by_cases hf0 : f = 0
  case neg =>
    have hGe := hwN.out hf0
    rw [HG.out] at hGe
    subst hGe
    obtain rfl : 0 = j := hj.out
    have hfb : (f == 0) = false := by rw [beq_eq_false_iff_ne]; exact hf0
    clear hf0
    obtain ⟨m0, m1, m2⟩ := BxM.cells (s10.get 2 rfl)
    go_wp2_with fail
    clear m0 m1 m2
    refine (lives_walk P _ s10.1).mono ?_
    rintro e wl ⟨rfl, hbl⟩
    have s11 := s10.next P hbl
    go_wp2
    go_ret
    exact ⟨rfl, s11.2.1⟩
  case pos =>
    have hGe := hwV.out hf0
    rw [HG.out] at hGe
    subst hGe
    subst hf0
    obtain rfl : j = n := hj.out.symm.trans hlen'.out
    have VG := Lib.hid (Mc.val_of HF.out)
    have hrow' := Lib.hid (fun row (h : row ∈ G.r) => (show 0 < row.length ∧ row.length ≤ 1000000 by have := VG.out.len row h; have h2 := VG.out.i1; have h3 := VG.out.i0; omega))
    have hG11 : BxM w10 w3.heap.size i o B3 j j := by have h := s10.get 2 rfl; rw [hmi'.out, hmo'.out] at h; exact h
    have hRG : RdR w10 B3 G.r := s10.get 4 rfl
    have hRW : RdR w10 (some ⟨pb, 0, none⟩) G.r := s10.get 1 rfl
    have hRM : RdR w10 R M.r := s10.get 8 rfl
    have CA := fun w ha hb => rmsame_yes G i o B3 (some ⟨pb, 0, none⟩) j j c4 w hmi'.out hmo'.out hlen'.out ha hb (by omega) (fun row h => (hrow'.out row h).2)
    have mm : (⟨i, o, M.r⟩ : Ma) = M := by rw [← hmi.out, ← hmo.out]
    have mg : (⟨i, o, G.r⟩ : Ma) = G := by rw [← hmi'.out, ← hmo'.out]
    have hS1 : Mc.samV G M = β := by rw [Mc.samV_yes VG.out V.out, hβ1.out]
    have hS2 : Mc.samV M G = β := by rw [Mc.samV_yes V.out VG.out, hβ2.out]
    have CB := fun w he ha hb => P.same i o i o G.r M.r B3 R j j j c1 w he ha hb hlen'.out (by omega) (fun row h => (hrow'.out row h).2) hlen.out (by omega) (fun row h => (hrow.out row h).2)
    have CD := fun w he ha hb => P.same i o i o M.r G.r R B3 j c1 j j w he hb ha hlen.out (by omega) (fun row h => (hrow.out row h).2) hlen'.out (by omega) (fun row h => (hrow'.out row h).2)
    simp only [mm, mg, hS1] at CB
    simp only [mm, mg, hS2] at CD
    clear mm mg hS1 hS2
    obtain ⟨m0, m1, m2⟩ := BxM.cells (s10.get 7 rfl)
    obtain ⟨o0, o1, o2⟩ := BxM.cells hG11
    obtain ⟨n0, n1, n2⟩ := BxM.cells (s10.get 0 rfl)
    obtain ⟨t0, t1, _, _⟩ := BxE.cells (s10.get 9 rfl)
    have hlm : w1.heap.size < w10.heap.size := heap_lt (s10.get 7 rfl)
    have hlo : w3.heap.size < w10.heap.size := heap_lt hG11
    have hln : w4.heap.size < w10.heap.size := heap_lt (s10.get 0 rfl)
    have hle : w.heap.size + 2 < w10.heap.size := heap_lt (s10.get 9 rfl)
    obtain ⟨br, offr, Be, de, qe, row', rfl, hbr, hcr, _, _, _, hpe, hqe, hrw⟩ := hRM.at_ (k := s) (by rw [hlen.out]; exact hsn)
    have hrr : row' = row := by have := hrw.out; rw [HRS.out] at this; injection this with this; exact this.symm
    subst hrr
    obtain ⟨be, offe, ex, ey, rfl, hbe, hce0, hce1, hex⟩ := hpe.at_ (k := k) (by rw [HRL.out]; exact hki)
    have hee : ((ex, ey) : Ed) = (yx, yy) := by have := hex.out; rw [HRK.out] at this; injection this with this; exact this.symm
    injection hee with he1 he2
    subst he1 he2
    have hqi : qe = i := by rw [← hqe.out, HRL.out]
    subst hqi
    have hrun : ∀ w, (binOp .eql 39 (.agg #[.int .i64 ex, .int .i64 ey]) (.agg #[.int .i64 tx, .int .i64 ty])).run Try.prog w = .ok (.bool β) w := fun w => by rw [run_eql_edge, HB.out]
    have hββ : (β == β) = true := beq_self_eq_true _
    have hjj : ((j : Int) == j) = true := beq_self_eq_true _
    have f0 : ∀ x : BW w10, x.out.cell? ⟨w1.heap.size, 0, none⟩ = some (.int .i64 qe) := fun x => (x.ok.cell (p := ⟨_, _, none⟩) hlm).trans m0
    have f1 : ∀ x : BW w10, x.out.cell? ⟨w1.heap.size, 1, none⟩ = some (.int .i64 o) := fun x => (x.ok.cell (p := ⟨_, _, none⟩) hlm).trans m1
    have f2 : ∀ x : BW w10, x.out.cell? ⟨w1.heap.size, 2, none⟩ = some (.slice (some ⟨br, offr, none⟩) j c1) := fun x => (x.ok.cell (p := ⟨_, _, none⟩) hlm).trans m2
    have f3 : ∀ x : BW w10, x.out.cell? ⟨w3.heap.size, 0, none⟩ = some (.int .i64 qe) := fun x => (x.ok.cell (p := ⟨_, _, none⟩) hlo).trans o0
    have f4 : ∀ x : BW w10, x.out.cell? ⟨w3.heap.size, 1, none⟩ = some (.int .i64 o) := fun x => (x.ok.cell (p := ⟨_, _, none⟩) hlo).trans o1
    have f5 : ∀ x : BW w10, x.out.cell? ⟨w3.heap.size, 2, none⟩ = some (.slice B3 j j) := fun x => (x.ok.cell (p := ⟨_, _, none⟩) hlo).trans o2
    have f6 : ∀ x : BW w10, x.out.cell? ⟨w4.heap.size, 0, none⟩ = some (.int .i64 qe) := fun x => (x.ok.cell (p := ⟨_, _, none⟩) hln).trans n0
    have f7 : ∀ x : BW w10, x.out.cell? ⟨w4.heap.size, 1, none⟩ = some (.int .i64 o) := fun x => (x.ok.cell (p := ⟨_, _, none⟩) hln).trans n1
    have f8 : ∀ x : BW w10, x.out.cell? ⟨w4.heap.size, 2, none⟩ = some (.slice (some ⟨pb, 0, none⟩) j c4) := fun x => (x.ok.cell (p := ⟨_, _, none⟩) hln).trans n2
    have f9 : ∀ x : BW w10, x.out.cell? ⟨w.heap.size + 2, 0, none⟩ = some (.int .i64 tx) := fun x => (x.ok.cell (p := ⟨_, _, none⟩) hle).trans t0
    have f10 : ∀ x : BW w10, x.out.cell? ⟨w.heap.size + 2, 1, none⟩ = some (.int .i64 ty) := fun x => (x.ok.cell (p := ⟨_, _, none⟩) hle).trans t1
    have f11 : ∀ x : BW w10, x.out.cell? ⟨br, offr + s, none⟩ = some (.slice (some ⟨be, offe, none⟩) qe de) := fun x => (x.ok.cell (p := ⟨_, _, none⟩) hbr).trans hcr
    have f12 : ∀ x : BW w10, x.out.cell? ⟨be, offe + k * 2, none⟩ = some (.int .i64 ex) := fun x => (x.ok.cell (p := ⟨_, _, none⟩) hbe).trans hce0
    have f13 : ∀ x : BW w10, x.out.cell? ⟨be, offe + k * 2 + 1, none⟩ = some (.int .i64 ey) := fun x => (x.ok.cell (p := ⟨_, _, none⟩) hbe).trans hce1
    have hsn' : (s : Int) < j := by omega
    have hki' : (k : Int) < qe := by omega
    have hE10 := s10.1
    have HRG := Lib.hid hRG
    have HRW := Lib.hid hRW
    have HRM := Lib.hid hRM
    clear hRG hRW hRM hpe hqe hrw hex m0 m1 m2 o0 o1 o2 n0 n1 n2 t0 t1 hce0 hce1 hcr
    go_wp2_with fail
    refine wp_region_quiet_below (by kernel_rfl) (by kernel_rfl) ?_
    repeat (go_big_quiet_step ((rename_i x; first
      | ((with_reducible refine (CA _ (HRG.out.below x.ok) (HRW.out.below x.ok)).mono ?_); rintro e w2 ⟨rfl, hb2⟩; exact ⟨rfl, ⟨w2, below_next x.ok hb2⟩, rfl⟩)
      | ((with_reducible refine (CB _ (P.keep hE10 x.ok) (HRG.out.below x.ok) (HRM.out.below x.ok)).mono ?_); rintro e w2 ⟨rfl, hb2⟩; exact ⟨rfl, ⟨w2, below_next x.ok hb2⟩, rfl⟩)
      | ((with_reducible refine (CD _ (P.keep hE10 x.ok) (HRG.out.below x.ok) (HRM.out.below x.ok)).mono ?_); rintro e w2 ⟨rfl, hb2⟩; exact ⟨rfl, ⟨w2, below_next x.ok hb2⟩, rfl⟩))))
    refine wpQuiet_nil ?_
    intro w11 hw11
    obtain ⟨⟨wx, hbW⟩, hw3⟩ := hw11
    dsimp only at hw3
    subst hw3
    clear f0 f1 f2 f3 f4 f5 f6 f7 f8 f9 f10 f11 f12 f13 hrun hββ hjj hsn' hki' CA CB CD hff
    have hTx := below_next hT10 hbW
    obtain ⟨pp, cs, rfl, hWs⟩ := Bld.rws (s10.get 3 rfl) hlen'.out (by omega) (fun row h => (hrow'.out row h).1)
    have hWx := Lib.hid (hWs.below hbW)
    have hGx : Hid (BxM w11 w3.heap.size qe o (some ⟨pp, 0, none⟩) j j) := (hbW.block _ (heap_lt hG11)).trans hG11
    clear hWs hbW s10 hG11 hT hT9 hT10 HRG HRW HRM hE10 s5 hb5 hlm hlo hln hle
    go_wp2_with fail
    go_loopw [14] (fun v wr => ∃ q : Nat, q ≤ j ∧ v = .int .i64 q ∧ Hid (Rws wr W4.heap.size pp j cs) ∧ Hid (BxM wr w3.heap.size qe o (some ⟨pp, 0, none⟩) j j) ∧ Below W4.heap.size W4 wr) (fun v _ => j - (intOf v).toNat)
    case atStart => exact ⟨0, Nat.zero_le _, rfl, hWx, hGx, hTx⟩
    case round =>
      obtain ⟨q, hq, rfl, hRw, hGr, hbr⟩ := hrel
      clear hWx hGx hTx
      obtain ⟨_, _, g2⟩ := BxM.cells hGr.out
      by_cases hql : q < j
      · obtain ⟨g', q', d', u', v', r0, hq'0, hgb, hgl, r1, r2, r3, r4, hcur⟩ := hRw.out.at_ hql
        have hne1 := hGr.out.ne hcur.out
        have hne2 := hRw.out.ne hcur.out
        have hql' : (q : Int) < j := by omega
        have hq'0' : (0 : Int) < q' := by omega
        have hgz : w3.heap.size < wr.heap.size := heap_lt hGr.out
        have hpz : pp < wr.heap.size := heap_lt hRw.out.blk
        go_wp2_with fail
        go_region_held3 (fun w' => w'.cell? ⟨w3.heap.size, 2, none⟩ = some (.slice (some ⟨pp, 0, none⟩) j j) ∧ w'.cell? ⟨pp, q, none⟩ = some (.slice (some ⟨g', 0, none⟩) q' d')) (first | exact ⟨y0, y1⟩ | exact ⟨z0, z1⟩ | exact ⟨g2, r0⟩ | go_keep)
          (first
            | (go_at_call 20
               (with_reducible refine (edge_any 0 0 _).mono ?_)
               rintro e w12 ⟨rfl, hb12d⟩
               have hb12 := (Below.refl wr.heap.size wr).drew.trans hb12d
               have z0 := (hb12.cell (p := ⟨w3.heap.size, 2, none⟩) hgz).trans g2
               have z1 := (hb12.cell (p := ⟨pp, q, none⟩) hpz).trans r0
               have z2 := (hb12.cell (p := ⟨g', 0, none⟩) hgl).trans r1
               have z3 := (hb12.cell (p := ⟨g', 1, none⟩) hgl).trans r2
               have z4 := (hb12.frozen (p := ⟨g', 0, none⟩) hgl).trans r3
               have z5 := (hb12.frozen (p := ⟨g', 1, none⟩) hgl).trans r4
               have hR2 : Rws w12 W4.heap.size pp j cs := hRw.out.below hb12
               have hG2 : BxM w12 w3.heap.size qe o (some ⟨pp, 0, none⟩) j j := (hb12.block _ hgz).trans hGr.out
               have hcu2 : ∃ cur, w12.heap[g']? = some (.cells cur 39 (0, 0)) := hcur.out.imp fun cur h => (hb12.block _ hgl).trans h
               have hRF := hR2.set2 hcu2 (.int .i64 0) (.int .i64 0)
               have hGF := hG2.set2 hne1 (.int .i64 0) (.int .i64 0)
               obtain ⟨_, _, y0⟩ := BxM.cells hGF
               have y1 : ((w12.setCell ⟨g', 0, none⟩ (.int .i64 0)).setCell ⟨g', 1, none⟩ (.int .i64 0)).cell? ⟨pp, q, none⟩ = some (.slice (some ⟨g', 0, none⟩) q' d') := by
                 rw [World.cell?_of_block (Below.heap_setCell _ _ _ _ hne2), World.cell?_of_block (Below.heap_setCell _ _ _ _ hne2)]; exact z1
               dsimp only)
            | fail)
        have hRFh := Lib.hid hRF
        have hGFh := Lib.hid hGF
        have hbF : Below W4.heap.size W4 ((w12.setCell ⟨g', 0, none⟩ (.int .i64 0)).setCell ⟨g', 1, none⟩ (.int .i64 0)) := ((below_next hbr hb12).setCell (p := ⟨g', 0, none⟩) hgb _).setCell (p := ⟨g', 1, none⟩) hgb _
        clear hRF hGF hR2 hG2 hcu2 y0 y1 z0 z1 z2 z3 z4 z5 r0 r1 r2 r3 r4 g2 hb12 hb12d
        go_wp2_with fail
        go_roundw
        case rel => exact ⟨q + 1, by omega, by go_num, hRFh, hGFh, hbF⟩
        case measure => simp [intOf]; omega
      · have sL := s4.next P hbr
        clear s4
        obtain ⟨m0, m1, m2⟩ := BxM.cells (sL.get 2 rfl)
        obtain ⟨o0, o1, o2⟩ := BxM.cells (sL.get 0 rfl)
        have hjq : ¬ (q : Int) < j := by omega
        go_wp2_with fail
        clear m0 m1 m2 o0 o1 o2 g2
        refine (CS _ (sL.get 3 rfl) (sL.get 1 rfl)).mono ?_
        rintro e w13 ⟨rfl, hbl⟩
        have s13 := sL.next P hbl
        go_wp2_with fail
        refine (lives_walk P _ s13.1).mono ?_
        rintro e wl ⟨rfl, hbl⟩
        have s14 := s13.next P hbl
        go_wp2
        go_ret
        exact ⟨rfl, s14.2.1⟩
end Go.Proofs.Ytiohfflkolopeaa
