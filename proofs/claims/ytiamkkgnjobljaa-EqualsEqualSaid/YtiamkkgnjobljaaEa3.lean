/-
  Contract: equals.Differ. No statement is proved here.
-/
import Derived.Test.YtiamkkgnjobljaaEa2
namespace Go.Proofs.Ytiamkkgnjobljaa
open Go.RowKit
open Mc (Ed Ma Wv)
attribute [local go_sem] Oper.semAt_some

theorem Blk.che {M : Nat} {w w' : World} {g : Nat} {cs : List Int} (h : Blk w g cs) (k : Che M w w') : Blk w' g cs := k.same g _ _ _ h (by decide)
theorem BxM.che {M : Nat} {w w' : World} {g n c : Nat} {i o : Int} {A : Option Addr} (h : BxM w g i o A n c) (k : Che M w w') (hg : g < M) : BxM w' g i o A n c := (k.low g hg).trans h
/-- The memory of Differ: the machines, the results. -/
structure Dfm (w : World) (h : Nat) (ia oa ib ob : Int) (A B : Option Addr) (n c n2 c2 : Nat) (v : Value) (b : Bool) (e : Int) (W : World) : Prop where
  bel : Below w.heap.size w W
  ma : BxM W h ia oa A n c
  mb : BxM W (h + 1) ib ob B n2 c2
  r0 : Box W (h + 1 + 1) v
  r1 : Box W (h + 1 + 1 + 1) (.bool b)
  r2 : Box W (h + 1 + 1 + 1 + 1) (.int .i64 e)
  hh : w.heap.size = h
section
variable {w W W' : World} {h : Nat} {ia oa ib ob : Int} {A B : Option Addr} {n c n2 c2 : Nat} {v : Value} {b : Bool} {e : Int}
theorem Dfm.che {M : Nat} (x : Dfm w h ia oa ib ob A B n c n2 c2 v b e W) (k : Che M W W') (h1 : h + 5 ≤ M) : Dfm w h ia oa ib ob A B n c n2 c2 v b e W' :=
  ⟨k.below (by have := x.hh; omega) x.bel, x.ma.che k (by omega), x.mb.che k (by omega), x.r0.che k (by omega), x.r1.che k (by omega), x.r2.che k (by omega), x.hh⟩
theorem Dfm.below (x : Dfm w h ia oa ib ob A B n c n2 c2 v b e W) (k : Below W.heap.size W W') : Dfm w h ia oa ib ob A B n c n2 c2 v b e W' :=
  ⟨below_next x.bel k, x.ma.mvB k, x.mb.mvB k, x.r0.below k, x.r1.below k, x.r2.below k, x.hh⟩
theorem Dfm.put (x : Dfm w h ia oa ib ob A B n c n2 c2 v b e W) (v' : Value) (b' : Bool) (e' : Int) : Dfm w h ia oa ib ob A B n c n2 c2 v' b' e' (((W.setCell ⟨h + 1 + 1, 0, none⟩ v').setCell ⟨h + 1 + 1 + 1, 0, none⟩ (.bool b')).setCell ⟨h + 1 + 1 + 1 + 1, 0, none⟩ (.int .i64 e')) := by
  have hh := x.hh
  exact ⟨((x.bel.setCell (p := ⟨h + 1 + 1, 0, none⟩) (by show _ ≤ h + 1 + 1; omega) _).setCell (p := ⟨h + 1 + 1 + 1, 0, none⟩) (by show _ ≤ h + 1 + 1 + 1; omega) _).setCell (p := ⟨h + 1 + 1 + 1 + 1, 0, none⟩) (by show _ ≤ h + 1 + 1 + 1 + 1; omega) _,
    ((x.ma.farS (by omega) _).farS (by omega) _).farS (by omega) _, ((x.mb.farS (by omega) _).farS (by omega) _).farS (by omega) _, ((x.r0.set_ _).far (by omega) _).far (by omega) _, (((x.r1.far (by omega) _).set_ _).far (by omega) _), (((x.r2.far (by omega) _).far (by omega) _).set_ _), hh⟩
end
/-- The blocks of the results. -/
def DfD (h : Nat) (b : Nat) : Prop := b = h + 1 + 1 ∨ b = h + 1 + 1 + 1 ∨ b = h + 1 + 1 + 1 + 1
theorem DfD.ka (W : World) (h : Nat) (v : Value) (b : Bool) (e : Int) : KA (DfD h) W (((W.setCell ⟨h + 1 + 1, 0, none⟩ v).setCell ⟨h + 1 + 1 + 1, 0, none⟩ (.bool b)).setCell ⟨h + 1 + 1 + 1 + 1, 0, none⟩ (.int .i64 e)) :=
  ((KA.set (D := DfD h) _ (.inl rfl) _).trans (KA.set (D := DfD h) _ (.inr (.inl rfl)) _)).trans (KA.set (D := DfD h) _ (.inr (.inr rfl)) _)
/-- The first pairs have no edges with different outputs. -/
def NoD (a b : Ma) (L : List Wv) (k : Nat) : Prop := ∀ (q : Nat) (y : Wv), q < k → L[q]? = some y → ∀ d, 0 ≤ d → d < a.i → Mc.sO a b y.1 d
theorem ArR.inb {B : Nat → Prop} {w : World} : ∀ {r : List Int} {g : Nat}, ArR B w r g → ArR (fun b => b < w.heap.size) w r g
  | [], _, ⟨_, s, t, i, h⟩ => ⟨h.lt, s, t, i, h⟩
  | _ :: _, _, ⟨_, s, t, g', h, hr⟩ => ⟨h.lt, s, t, g', h, hr.inb⟩
theorem ArP.inb {B : Nat → Prop} {w : World} {g nb : Nat} {x : Wv} (h : ArP B w g nb x) : ArP (fun b => b < w.heap.size) w g nb x := ⟨h.1.inb, h.2⟩
/-- What Differ hands back. -/
def DifP (w : World) (a b : Ma) (e : Ending) (w' : World) : Prop := Below w.heap.size w w' ∧ ∃ (X : Option Addr) (k : Nat) (ws : List Int) (is : Bool) (z : Int), e = .returned (.tuple #[.slice X k k, .bool is, .int .i64 z]) ∧ Rd w' X ws ∧ ws.length = k ∧ z = ech a b ∧
  ((is = true ∧ z = 0 ∧ Mc.Ldw a b ws) ∨ (is = false ∧ ws = [] ∧ (z = 0 → Mc.Sim a b)))

set_option maxRecDepth 100000 in
set_option maxHeartbeats 4000000 in
theorem ediffer_any (a b : Ma) (A B : Option Addr) (n c n2 c2 : Nat) (w : World) (hra : RdR w A a.r) (hn : a.r.length = n) (hnb : n ≤ 1000000) (hrl : ∀ row ∈ a.r, row.length ≤ 1000000) (hrb : RdR w B b.r) (hn2 : b.r.length = n2) (hnb2 : n2 ≤ 1000000) (hrl2 : ∀ row ∈ b.r, row.length ≤ 1000000) :
    Calls Try.prog 22 #[.agg #[.int .i64 a.i, .int .i64 a.o, .slice A n c], .agg #[.int .i64 b.i, .int .i64 b.o, .slice B n2 c2]] w (DifP w a b) := by
  obtain ⟨mm, _⟩ : ∃ mm : Nat, True := ⟨3, trivial⟩
  obtain ⟨h, hh⟩ : ∃ h, w.heap.size = h := ⟨_, rfl⟩
  obtain ⟨W1, hW1⟩ : ∃ W1, ((((boxM (boxM w a.i a.o A n c) b.i b.o B n2 c2)).alloc (.cells #[.slice none 0 0] 38)).alloc (.cells #[.bool false] 4)).alloc (.cells #[.int .i64 0] 40) = W1 := ⟨_, rfl⟩
  have hz1 : W1.heap.size = h + 5 := by rw [← hW1, ← hh]; simp [boxM]
  have hP1 : Dfm w h a.i a.o b.i b.o A B n c n2 c2 (.slice none 0 0) false 0 W1 := by
    rw [← hW1]
    refine ⟨?_, ?_, ?_, ((Box.new_ (by simp [boxM, hh]) _ _).alloc _).alloc _, (Box.new_ (by simp [boxM, hh]) _ _).alloc _, Box.new_ (by simp [boxM, hh]) _ _, hh⟩
    · exact (((((Below.refl _ _).alloc (Nat.le_refl _) _).alloc (by simp) _).alloc (by simp; omega) _).alloc (by simp; omega) _).alloc (by simp; omega) _
    · exact ((((BxM.newE hh a.i a.o A n c).mvB ((Below.refl _ _).alloc (Nat.le_refl _) _)).mvB ((Below.refl _ _).alloc (Nat.le_refl _) _)).mvB ((Below.refl _ _).alloc (Nat.le_refl _) _)).mvB ((Below.refl _ _).alloc (Nat.le_refl _) _)
    · exact (((BxM.newE (by simp [boxM, hh]) b.i b.o B n2 c2).mvB ((Below.refl _ _).alloc (Nat.le_refl _) _)).mvB ((Below.refl _ _).alloc (Nat.le_refl _) _)).mvB ((Below.refl _ _).alloc (Nat.le_refl _) _)
  obtain ⟨p0, p1, p2⟩ := hP1.ma.cells
  obtain ⟨q0, q1, q2⟩ := hP1.mb.cells
  have hC := echeck_any a b A B n c n2 c2 W1 (hra.below hP1.bel) hn hnb hrl (hrb.below hP1.bel) hn2 hnb2 hrl2
  have HC := Lib.hid hC
  have HN := Lib.hid hn
  have HN2 := Lib.hid hn2
  clear hC hrl hrl2 hn hn2
  refine (callsIn_wide (n := mm)).1 ?_
  refine callsIn_of_wp_marks Try.func22 rfl trivial ?_
  simp only [Try.ntmps22, List.size_toArray, List.length_cons, List.length_nil, Nat.reduceAdd, Nat.reduceSub, Array.replicate_succ, Array.replicate_zero, List.push_toArray, List.append_toArray, List.nil_append, List.cons_append]
  gi_wp2_with fail
  refine wide_calls HC.out ?_
  rintro e w2 ⟨rfl, hb2⟩
  have hP2 := hP1.below hb2
  have hz2 : h + 5 ≤ w2.heap.size := by have h1 := hb2.size; omega
  clear p0 p1 p2 q0 q1 q2 hb2 hP1 hW1 hz1 HC
  by_cases hz : ech a b = 0
  · obtain ⟨va, vb, hi⟩ := ech_ok hz
    have HZ := Lib.hid hz
    have HI := Lib.hid hi
    rw [hz]
    obtain ⟨p0, p1, p2⟩ := hP2.ma.cells
    obtain ⟨q0, q1, q2⟩ := hP2.mb.cells
    clear hz hi
    gi_wp2_with fail
    refine wide_calls (ewalk_any _ _ _ _ _ _ _ _ _ _ _) ?_
    rintro e w4 ⟨rfl, rfl⟩
    gi_wp2_with fail
    obtain ⟨gB, hgB⟩ : ∃ gB, w2.heap.size = gB := ⟨_, rfl⟩
    obtain ⟨Wl, hWl⟩ : ∃ Wl, boxM (boxM w2 a.i a.o A n c) b.i b.o B n2 c2 = Wl := ⟨_, rfl⟩
    rw [hgB, hWl]
    have hbB : Below w2.heap.size w2 Wl := by rw [← hWl]; exact ((Below.refl _ _).alloc (Nat.le_refl _) _).alloc (by simp) _
    have hPl := hP2.below hbB
    have hbw := hPl.bel
    have hzl : Wl.heap.size = gB + 2 := by rw [← hWl, ← hgB]; simp [boxM]
    have hba : BxM Wl gB a.i a.o A n c := by
      rw [← hWl, ← hgB]
      exact (BxM.new w2 a.i a.o A n c).mvB ((Below.refl _ _).alloc (Nat.le_refl _) _)
    have hbb : BxM Wl (gB + 1) b.i b.o B n2 c2 := by
      rw [← hWl]
      exact BxM.newE (by simp [boxM, hgB]) b.i b.o B n2 c2
    obtain ⟨L, hL⟩ : ∃ L, Mc.wk (Mc.pr a b) 0 = L := ⟨_, rfl⟩
    have hG : GivesE (mm - 1) n2 86 #[.pointer (some ⟨gB, 0, none⟩), .pointer (some ⟨gB + 1, 0, none⟩)] L (DfD h) Wl := by
      rw [← hL]
      exact ewalk1_gives (mm - 1) a b va vb HI.out gB (gB + 1) A B c c2 n n2 HN.out HN2.out (DfD h) w Wl hra hrb hbw hba hbb (fun h => by unfold DfD at h; omega) (fun h => by unfold DfD at h; omega) (fun b h => by unfold DfD at h; omega) (fun b h => by unfold DfD at h; omega)
    have hBF : Hid (Mc.BF (Mc.pr a b) 0 L L.length 0) := by
      show Mc.BF _ _ _ _ _
      rw [← hL]
      exact Mc.wk_bfQ (Mc.pr_vq va vb HI.out) ⟨by omega, by rw [Mc.pr_len]; exact_mod_cast Nat.mul_pos va.r0 vb.r0⟩
    have HVA := Lib.hid va
    have HVB := Lib.hid vb
    have hhl : w.heap.size ≤ Wl.heap.size := hbw.size
    have hk0 : NoD a b L 0 := fun q y hq => by omega
    clear p0 p1 p2 q0 q1 q2 hP2 hbB hba hbb hWl hbw hL va vb
    refine range_arr (m := mm) 86 _ rfl (enters_of Try.func86 (by kernel_rfl) rfl) L (DfD h) (fun b hb => by unfold DfD at hb; omega) rfl n2 hG
      (fun k W => Dfm w h a.i a.o b.i b.o A B n c n2 c2 (.slice none 0 0) false 0 W ∧ NoD a b L k)
      (fun c' W => c' = .ret ∧ ∃ (X : Nat) (xw : List Int), Dfm w h a.i a.o b.i b.o A B n c n2 c2 (.slice (some ⟨X, 0, none⟩) xw.length xw.length) true 0 W ∧ Blk W X xw ∧ Hid (Mc.Ldw a b xw))
      (fun k A B h c => ⟨h.1.che c (by omega), h.2⟩) (fun c' A B h c => by
        obtain ⟨h1, X, xw, h2, h3, h4⟩ := h
        exact ⟨h1, X, xw, h2.che c (by omega), h3.che c, h4⟩) ⟨hPl, hk0⟩ ?round ?done ?stop
    case round =>
      intro l k x X W hk hW hI hO
      obtain ⟨xs, xw⟩ := x
      obtain ⟨hI, hno⟩ := hI
      have HK := Lib.hid hk
      simp only [arv]
      clear hk hG hPl hk0
      gi_wp2_with fail
      refine ⟨Below.refl _ _, fun W2 hc2 => ?_⟩
      have hI2 := hI.che (Che.of_cells hc2) (by omega)
      have hO2 := hO.keep (M := 0) (KCe.of_cells hc2)
      clear hI hc2 hO
      obtain ⟨⟨hx0, hx1⟩, hxl⟩ := hBF.out.lw _ (List.mem_of_getElem? HK.out)
      simp only at hx0 hx1 hxl
      rw [Mc.pr_len, HN.out, HN2.out] at hx1
      obtain ⟨cdx, rfl⟩ := Int.eq_ofNat_of_zero_le hx0
      obtain ⟨s, t, hs, ht, hkst⟩ := Mc.cd_inv (n := n2) (p := n) (k := cdx) (by exact_mod_cast hx1)
      have hk1 : ((cdx : Nat) : Int) / (n2 : Nat) = s := by rw [hkst, ← Int.natCast_ediv, Mc.cd_div ht]
      have hk2 : ((cdx : Nat) : Int) % (n2 : Nat) = t := by rw [hkst, ← Int.natCast_emod, Mc.cd_mod ht]
      have HS0 : Hid (∀ d : Int, Mc.sO a b ((cdx : Nat) : Int) d ↔ (Mc.nx a s d).2 = (Mc.nx b t d).2) := fun d => by
        rw [hkst]
        have := Mc.sO_cd (a := a) (b := b) (s := s) (t := t) (by rw [HN2.out]; exact ht) d
        rw [HN2.out] at this
        exact this
      have hsh := hxl.shortQ (Mc.pr_vq HVA.out HVB.out HI.out) ⟨by omega, by rw [Mc.pr_len]; exact_mod_cast Nat.mul_pos HVA.out.r0 HVB.out.r0⟩ (by omega)
      have hxl4 : xw.length ≤ 4096 := by
        rw [Mc.pr_len] at hsh
        have := Nat.mul_le_mul HVA.out.r1 HVB.out.r1
        omega
      have HXL := Lib.hid hxl4
      obtain ⟨b1, o1, R1, d1, m1, row1, rfl, hb1, hcw1, _, _, _, hpw1, hln1, hqr1⟩ := hra.at_ (show s < a.r.length by rw [HN.out]; exact hs)
      obtain ⟨b2, o2, R2, d2, m2, row2, rfl, hb2, hcw2, _, _, _, hpw2, hln2, hqr2⟩ := hrb.at_ (show t < b.r.length by rw [HN2.out]; exact ht)
      have hm1 : Hid ((m1 : Int) = a.i) := by show _ = _; rw [← hln1.out]; exact HVA.out.len row1 (List.mem_of_getElem? hqr1.out)
      have hm2 : m2 = m1 := by
        have h1 := HVB.out.len row2 (List.mem_of_getElem? hqr2.out)
        rw [hln2.out, ← HI.out, ← hm1.out] at h1
        omega
      subst hm2
      have hm16 : m2 ≤ 16 := by have := hm1.out; have := HVA.out.i1; omega
      -- what is read, in every later world
      have RD : Hid (∀ wr, Below W2.heap.size W2 wr → (wr.cell? ⟨h, 2, none⟩ = some (.slice (some ⟨b1, o1, none⟩) n c) ∧ wr.cell? ⟨b1, o1 + s, none⟩ = some (.slice R1 m2 d1)) ∧ (wr.cell? ⟨h + 1, 2, none⟩ = some (.slice (some ⟨b2, o2, none⟩) n2 c2) ∧ wr.cell? ⟨b2, o2 + t, none⟩ = some (.slice R2 m2 d2)) ∧ (wr.cell? ⟨X, 0, none⟩ = some (.int .i64 s) ∧ wr.cell? ⟨X, 1, none⟩ = some (.int .i64 t))) := fun wr hb => by
        have hX := hI2.below hb
        obtain ⟨_, p, i, hA⟩ := hO2.below hb
        obtain ⟨a0, a1, _⟩ := hA.cells
        simp only [hk1, hk2] at a0 a1
        exact ⟨⟨hX.ma.cells.2.2, (hX.bel.cell (p := ⟨b1, o1 + s, none⟩) hb1).trans hcw1⟩, ⟨hX.mb.cells.2.2, (hX.bel.cell (p := ⟨b2, o2 + t, none⟩) hb2).trans hcw2⟩, a0, a1⟩
      have hs1 : (s : Int) < n := by omega
      have ht1 : (t : Int) < n2 := by omega
      obtain ⟨⟨x0, x1⟩, _, x2, _⟩ := RD.out W2 (Below.refl _ _)
      have hI2L : h + 1 + 1 + 1 + 1 < W2.heap.size := hI2.r2.lt
      have HI2 := Lib.hid hI2
      have HO2 := Lib.hid hO2
      have HNO := Lib.hid hno
      clear hx0 hx1 hxl hsh hkst hno hI2 hO2
      gi_wp2
      refine wpIn_region_quiet_lit (by kernel_rfl) (by kernel_rfl) (by kernel_rfl) ?_
      repeat (go_big_quiet_step (fail))
      refine wpQuiet_nil ?_
      rintro w' ⟨nq, rfl⟩
      obtain ⟨W3, hW3⟩ : ∃ W3, W2.drewN nq = W3 := ⟨_, rfl⟩
      rw [hW3]
      have hb3 : Hid (Below W2.heap.size W2 W3) := by show Below _ _ _; rw [← hW3]; exact below_drewN' (Below.refl _ _) _
      clear hW3 x0 x1 x2
      have RC : Hid (∀ wr, Below W2.heap.size W2 wr → ∀ b o v, b < w.heap.size → w.cell? ⟨b, o, none⟩ = some v → wr.cell? ⟨b, o, none⟩ = some v) := fun wr hb b o v hbl hv => ((HI2.out.below hb).bel.cell (p := ⟨b, o, none⟩) hbl).trans hv
      gi_wp2
      gi_loopw [31] (fun z wr => ∃ j : Nat, z = .int .i64 j ∧ j ≤ m2 ∧ Hid (∀ d : Int, 0 ≤ d → d < j → Mc.sO a b ((cdx : Nat) : Int) d) ∧ Hid (Below W2.heap.size W2 wr)) (fun z _ => m2 - (intOf z).toNat)
      case atStart => exact ⟨0, rfl, by omega, fun d h0 h1 => by omega, hb3⟩
      case round =>
        clear hb3
        obtain ⟨j, rfl, hj, hsm, hbr⟩ := hrel
        by_cases hjl : j < m2
        · obtain ⟨e1, f1, ex, eo, rfl, he1, hx0, hy0, hqe1⟩ := hpw1.at_ (k := j) (by rw [hln1.out]; exact hjl)
          obtain ⟨e2, f2, fx, fo, rfl, he2, hx2, hy2, hqe2⟩ := hpw2.at_ (k := j) (by rw [hln2.out]; exact hjl)
          have z0 := RC.out wr hbr.out e1 (f1 + j * 2) _ he1 hx0
          have z1 := RC.out wr hbr.out e1 (f1 + j * 2 + 1) _ he1 hy0
          have hjl' : (j : Int) < m2 := by omega
          have hsz := hbr.out.size
          have hbE : Below W2.heap.size W2 (wr.alloc (.cells #[.int .i64 ex, .int .i64 eo] 27)) := hbr.out.alloc hsz _
          obtain ⟨_, ⟨r0, r1⟩, _, a1⟩ := RD.out _ hbE
          have y0 := RC.out _ hbE e2 (f2 + j * 2) _ he2 hx2
          have y1 := RC.out _ hbE e2 (f2 + j * 2 + 1) _ he2 hy2
          have HBE := Lib.hid hbE
          have hne1 : Hid ((Mc.nx a s j).2 = eo) := by show _ = _; rw [Mc.nx_at hqr1.out hqe1.out]
          have hne2 : Hid ((Mc.nx b t j).2 = fo) := by show _ = _; rw [Mc.nx_at hqr2.out hqe2.out]
          clear hbE hqe1 hqe2 hx0 hy0 hx2 hy2 he1 he2
          gi_wp2_with fail
          refine wpIn_region_quiet_lit (by kernel_rfl) (by kernel_rfl) (by kernel_rfl) ?_
          repeat (go_big_quiet_step (fail))
          refine wpQuiet_nil ?_
          rintro w' ⟨nq2, rfl⟩
          obtain ⟨W5, hW5⟩ : ∃ W5, (wr.alloc (.cells #[.int .i64 ex, .int .i64 eo] 27)).drewN nq2 = W5 := ⟨_, rfl⟩
          rw [hW5]
          have hb5 : Hid (Below W2.heap.size W2 W5) := by show Below _ _ _; rw [← hW5]; exact below_drewN' HBE.out _
          clear hW5 r0 r1 a1 y0 y1 z0 z1
          by_cases hoo : eo = fo
          · have hob : (eo == fo) = true := by rw [hoo]; exact beq_self_eq_true _
            have hsm2 : Hid (∀ d : Int, 0 ≤ d → d < ((j + 1 : Nat) : Int) → Mc.sO a b ((cdx : Nat) : Int) d) := fun d h0 h1 => by
              rcases Int.lt_or_le d j with h2 | h2
              · exact hsm.out d h0 h2
              · have : d = j := by omega
                subst this
                rw [HS0.out, hne1.out, hne2.out, hoo]
            subst hoo
            clear hob
            gi_wp2
            go_roundw
            case rel => exact ⟨j + 1, by go_num, by omega, hsm2, hb5⟩
            case measure => simp [intOf]; omega
          · have hob : (eo == fo) = false := by rw [beq_eq_false_iff_ne]; exact hoo
            have hldw : Hid (Mc.Ldw a b (xw ++ [(j : Int)])) := by
              refine Mc.ldw_hit HVA.out HVB.out HI.out hBF.out HK.out (fun q y hq hy d h0 h1 => HNO.out q y hq hy d h0 h1) ⟨by omega, by rw [← hm1.out]; omega⟩ (fun d h0 h1 => hsm.out d h0 h1) ?_
              rw [HS0.out, hne1.out, hne2.out]
              exact hoo
            have hsz5 := hb5.out.size
            have hbS : Below W5.heap.size W5 (W5.alloc (.cells #[.int .i64 j] 3)) := (Below.refl _ _).alloc (Nat.le_refl _) _
            have HBS := Lib.hid (below_next hb5.out hbS)
            have hR : Rd (W5.alloc (.cells #[.int .i64 j] 3)) (some ⟨W5.heap.size, 0, none⟩) [(j : Int)] := Rd.of_block (t := 3) (heap_alloc_new W5 _)
            have hXw := (HO2.out.below HBS.out).inb
            have hEW := Lib.hid (eword_any _ X n2 ((cdx : Int), xw) j _ hXw hR HXL.out)
            clear hbS hR hXw
            gi_wp2_with fail
            refine round_calls hEW.out ?_
            rintro e w7 ⟨hw, rfl, hwl, hBw, hb7⟩
            simp only at hBw ⊢
            have hb27 := below_next HBS.out hb7
            have hI7 := HI2.out.below hb27
            have hwh : h + 1 + 1 + 1 + 1 < hw := by
              have := hI2L
              simp at hwl
              omega
            obtain ⟨ln, hln⟩ : ∃ ln, xw.length + 1 = ln := ⟨_, rfl⟩
            have HLN : Hid ((xw ++ [(j : Int)]).length = ln) := by show _ = _; rw [← hln]; simp
            rw [hln]
            have hI8 := hI7.put (.slice (some ⟨hw, 0, none⟩) ln ln) true 0
            have hKA := (KA.of_below (D := DfD h) hb27).trans (DfD.ka w7 h (.slice (some ⟨hw, 0, none⟩) ln ln) true 0)
            have hBf : Blk (((w7.setCell ⟨h + 1 + 1, 0, none⟩ (.slice (some ⟨hw, 0, none⟩) ln ln)).setCell ⟨h + 1 + 1 + 1, 0, none⟩ (.bool true)).setCell ⟨h + 1 + 1 + 1 + 1, 0, none⟩ (.int .i64 0)) hw (xw ++ [(j : Int)]) :=
              (Below.heap_setCell _ _ _ hw (by show hw ≠ h + 1 + 1 + 1 + 1; omega)).trans ((Below.heap_setCell _ _ _ hw (by show hw ≠ h + 1 + 1 + 1; omega)).trans ((Below.heap_setCell _ _ _ hw (by show hw ≠ h + 1 + 1; omega)).trans hBw))
            have R : roundE (DfD h) Wl.heap.size (fun k W => Dfm w h a.i a.o b.i b.o (some ⟨b1, o1, none⟩) (some ⟨b2, o2, none⟩) n c n2 c2 (.slice none 0 0) false 0 W ∧ NoD a b L k) (fun c' W => c' = .ret ∧ ∃ (X : Nat) (xw : List Int), Dfm w h a.i a.o b.i b.o (some ⟨b1, o1, none⟩) (some ⟨b2, o2, none⟩) n c n2 c2 (.slice (some ⟨X, 0, none⟩) xw.length xw.length) true 0 W ∧ Blk W X xw ∧ Hid (Mc.Ldw a b xw)) k W2 .ret ⟨#[], []⟩ (((w7.setCell ⟨h + 1 + 1, 0, none⟩ (.slice (some ⟨hw, 0, none⟩) ln ln)).setCell ⟨h + 1 + 1 + 1, 0, none⟩ (.bool true)).setCell ⟨h + 1 + 1 + 1 + 1, 0, none⟩ (.int .i64 0)) :=
              ⟨⟨rfl, hw, xw ++ [(j : Int)], by rw [HLN.out]; exact hI8, hBf, hldw⟩, KA2.of_ka hKA⟩
            have RH := Lib.hid R
            have x0 := hI7.r0.1
            have y0 := hI7.r0.2
            have x1 := (hI7.r1.far (c := h + 1 + 1) (by omega) (o := 0) (.slice (some ⟨hw, 0, none⟩) ln ln)).1
            have y1 := (hI7.r1.far (c := h + 1 + 1) (by omega) (o := 0) (.slice (some ⟨hw, 0, none⟩) ln ln)).2
            have x2 := ((hI7.r2.far (c := h + 1 + 1) (by omega) (o := 0) (.slice (some ⟨hw, 0, none⟩) ln ln)).far (c := h + 1 + 1 + 1) (by omega) (o := 0) (.bool true)).1
            have y2 := ((hI7.r2.far (c := h + 1 + 1) (by omega) (o := 0) (.slice (some ⟨hw, 0, none⟩) ln ln)).far (c := h + 1 + 1 + 1) (by omega) (o := 0) (.bool true)).2
            clear R hI8 hKA hBf hI7 hb27 hBw hln
            gi_wp2_with fail
            exact RH.out
        · have hjm : j = m2 := by omega
          have hno2 : NoD a b L (k + 1) := fun q y hq hy d h0 h1 => by
            rcases Nat.lt_or_ge q k with h2 | h2
            · exact HNO.out q y h2 hy d h0 h1
            · have : q = k := by omega
              subst this
              rw [HK.out] at hy
              injection hy with hy
              subst hy
              exact hsm.out d h0 (by rw [hjm, hm1.out]; exact h1)
          have R : roundE (DfD h) Wl.heap.size (fun k W => Dfm w h a.i a.o b.i b.o (some ⟨b1, o1, none⟩) (some ⟨b2, o2, none⟩) n c n2 c2 (.slice none 0 0) false 0 W ∧ NoD a b L k) (fun c' W => c' = .ret ∧ ∃ (X : Nat) (xw : List Int), Dfm w h a.i a.o b.i b.o (some ⟨b1, o1, none⟩) (some ⟨b2, o2, none⟩) n c n2 c2 (.slice (some ⟨X, 0, none⟩) xw.length xw.length) true 0 W ∧ Blk W X xw ∧ Hid (Mc.Ldw a b xw)) k W2 .normal ⟨#[], []⟩ wr :=
            ⟨⟨HI2.out.below hbr.out, hno2⟩, KA2.of_ka (KA.of_below hbr.out)⟩
          have RH := Lib.hid R
          clear R hno2
          gi_wp2_with fail
          exact RH.out
    case done =>
      intro N W hN hI hd
      obtain ⟨hI, hno⟩ := hI
      have hsim : Hid (Mc.Sim a b) := Mc.sim_none HVA.out HVB.out HI.out hBF.out (fun q y hy d h0 h1 => hno q y (List.getElem?_eq_some_iff.1 hy).1 hy d h0 h1)
      have hWh : h + 1 + 1 + 1 + 1 < W.heap.size := hI.r2.lt
      have hNl := heap_lt hd
      have hbN : Below W.heap.size W (W.alloc (.cells #[] 3)) := (Below.refl _ _).alloc (Nat.le_refl _) _
      have hI4 := hI.below hbN
      have x0 := hI4.r0.1
      have y0 := hI4.r0.2
      have x1 := (hI4.r1.far (c := h + 1 + 1) (by omega) (o := 0) (.slice (some ⟨W.heap.size, 0, none⟩) 0 0)).1
      have y1 := (hI4.r1.far (c := h + 1 + 1) (by omega) (o := 0) (.slice (some ⟨W.heap.size, 0, none⟩) 0 0)).2
      have x2 := ((hI4.r2.far (c := h + 1 + 1) (by omega) (o := 0) (.slice (some ⟨W.heap.size, 0, none⟩) 0 0)).far (c := h + 1 + 1 + 1) (by omega) (o := 0) (.bool false)).1
      have y2 := ((hI4.r2.far (c := h + 1 + 1) (by omega) (o := 0) (.slice (some ⟨W.heap.size, 0, none⟩) 0 0)).far (c := h + 1 + 1 + 1) (by omega) (o := 0) (.bool false)).2
      have hI5 := hI4.put (.slice (some ⟨W.heap.size, 0, none⟩) 0 0) false 0
      have hd4 : (W.alloc (.cells #[] 3)).heap[N]? = some (.deferred (some [])) := (hbN.block N hNl).trans hd
      have hd5 : ((((W.alloc (.cells #[] 3)).setCell ⟨h + 1 + 1, 0, none⟩ (.slice (some ⟨W.heap.size, 0, none⟩) 0 0)).setCell ⟨h + 1 + 1 + 1, 0, none⟩ (.bool false)).setCell ⟨h + 1 + 1 + 1 + 1, 0, none⟩ (.int .i64 0)).heap[N]? = some (.deferred (some [])) :=
        (Below.heap_setCell _ _ _ N (by show N ≠ h + 1 + 1 + 1 + 1; omega)).trans ((Below.heap_setCell _ _ _ N (by show N ≠ h + 1 + 1 + 1; omega)).trans ((Below.heap_setCell _ _ _ N (by show N ≠ h + 1 + 1; omega)).trans hd4))
      have hI6 := hI5.che (Che.of_cells (CelE.put (B := h + 5) (.deferred none) hd5 rfl (by omega))) (Nat.le_refl _)
      have HI6 := Lib.hid hI6
      have HD5 := Lib.hid hd5
      clear hI hG hPl hI4 hI5 hI6 hd5 hd4 hbN hno
      simp only [marked]
      gi_wp2_with fail
      refine ⟨by simp, .inl ⟨_, _, rfl, run_takeDeferred HD5.out, ?_⟩⟩
      refine ⟨.tuple #[.slice (some ⟨W.heap.size, 0, none⟩) 0 0, .bool false, .int .i64 0], ?_, HI6.out.bel, _, 0, [], false, 0, rfl, (fun h => absurd h (by simp)), rfl, HZ.out.symm, Or.inr ⟨rfl, rfl, fun _ => hsim.out⟩⟩
      simp [results, Try.f22, go_sem, HI6.out.r0.1, HI6.out.r1.1, HI6.out.r2.1]
    case stop =>
      rintro N c' W hN ⟨rfl, X, xw, hI, hO, hld⟩ hd
      have hc := CelE.put (B := h + 5) (.deferred none) hd rfl (by omega)
      have HI6 := Lib.hid (hI.che (Che.of_cells hc) (Nat.le_refl _))
      have HO6 := Lib.hid (hO.che (Che.of_cells hc))
      have HD := Lib.hid hd
      clear hI hO hG hPl hd hc
      simp only [marked]
      gi_wp2_with fail
      refine ⟨by simp, .inl ⟨_, _, rfl, run_takeDeferred HD.out, ?_⟩⟩
      refine ⟨.tuple #[.slice (some ⟨X, 0, none⟩) xw.length xw.length, .bool true, .int .i64 0], ?_, HI6.out.bel, _, _, xw, true, 0, rfl, HO6.out.rd, rfl, HZ.out.symm, Or.inl ⟨rfl, rfl, hld.out⟩⟩
      simp [results, Try.f22, go_sem, HI6.out.r0.1, HI6.out.r1.1, HI6.out.r2.1]
  · have hzb : (ech a b == 0) = false := by rw [beq_eq_false_iff_ne]; exact hz
    obtain ⟨z, hzz⟩ : ∃ z, ech a b = z := ⟨_, rfl⟩
    rw [hzz] at hz hzb ⊢
    have HZ := Lib.hid hzz
    have hzn : (z != 0) = true := by simpa using hz
    have HI6 := Lib.hid (hP2.put (.slice none 0 0) false z)
    have x0 := hP2.r0.1
    have y0 := hP2.r0.2
    have x1 := (hP2.r1.far (c := h + 1 + 1) (by omega) (o := 0) (.slice none 0 0)).1
    have y1 := (hP2.r1.far (c := h + 1 + 1) (by omega) (o := 0) (.slice none 0 0)).2
    have x2 := ((hP2.r2.far (c := h + 1 + 1) (by omega) (o := 0) (.slice none 0 0)).far (c := h + 1 + 1 + 1) (by omega) (o := 0) (.bool false)).1
    have y2 := ((hP2.r2.far (c := h + 1 + 1) (by omega) (o := 0) (.slice none 0 0)).far (c := h + 1 + 1 + 1) (by omega) (o := 0) (.bool false)).2
    have HZ2 := Lib.hid hz
    clear hzz hP2 hz
    gi_wp2_with fail
    refine ⟨.tuple #[.slice none 0 0, .bool false, .int .i64 z], ?_, HI6.out.bel, none, 0, [], false, z, rfl, Rd.nil_, rfl, HZ.out.symm, Or.inr ⟨rfl, rfl, fun h => absurd h HZ2.out⟩⟩
    simp [results, Try.f22, go_sem, HI6.out.r0.1, HI6.out.r1.1, HI6.out.r2.1]
end Go.Proofs.Ytiamkkgnjobljaa
