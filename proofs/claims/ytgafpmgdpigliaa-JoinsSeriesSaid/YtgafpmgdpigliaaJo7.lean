/-
  Contracts: Series, Parallel. No statement is proved here.
-/
import Derived.Test.YtgafpmgdpigliaaJo6
namespace Go.Proofs.Ytgafpmgdpigliaa
open Go.RowKit
open Mc (Ed Ma Wv nE)

/-- What a function of joins hands back where there is an error. -/
def JzP (w : World) (x : Int) (e : Ending) (w' : World) : Prop := e = .returned (.tuple #[.agg #[.int .i64 0, .int .i64 0, .slice none 0 0], .int .i64 x]) ∧ Below w.heap.size w w'
/-- The memory of a function over two machines: both boxes, the result. -/
structure J2 (w : World) (a b : Ma) (A B : Option Addr) (n c n2 c2 : Nat) (W : World) : Prop where
  bel : Below w.heap.size w W
  ba : BxM W w.heap.size a.i a.o A n c
  bb : BxM W (w.heap.size + 1) b.i b.o B n2 c2
  bz : BxM W (w.heap.size + 1 + 1) 0 0 none 0 0
section
variable {w W W' : World} {a b : Ma} {A B : Option Addr} {n c n2 c2 : Nat}
theorem J2.mk_ (w : World) (a b : Ma) (A B : Option Addr) (n c n2 c2 : Nat) : J2 w a b A B n c n2 c2 ((boxM (boxM w a.i a.o A n c) b.i b.o B n2 c2).alloc (.cells #[.int .i64 0, .int .i64 0, .slice none 0 0] 24)) := by
  have h2 := heap_alloc_new (boxM (boxM w a.i a.o A n c) b.i b.o B n2 c2) (.cells #[.int .i64 0, .int .i64 0, .slice none 0 0] 24)
  rw [World.size_alloc, World.size_alloc] at h2
  exact ⟨(((Below.refl _ _).alloc (Nat.le_refl _) _).alloc (by simp) _).alloc (by simp; omega) _, ((BxM.new w a.i a.o A n c).mvB ((Below.refl _ _).alloc (Nat.le_refl _) _)).mvB ((Below.refl _ _).alloc (Nat.le_refl _) _), (BxM.newE (by simp [boxM]) b.i b.o B n2 c2).mvB ((Below.refl _ _).alloc (Nat.le_refl _) _), h2⟩
theorem J2.below (h : J2 w a b A B n c n2 c2 W) (k : Below W.heap.size W W') : J2 w a b A B n c n2 c2 W' := ⟨below_next h.bel k, h.ba.mvB k, h.bb.mvB k, h.bz.mvB k⟩
theorem J2.err (h : J2 w a b A B n c n2 c2 W) (x y v : Value) : Below w.heap.size w (((W.setCell ⟨w.heap.size + 1 + 1, 0, none⟩ x).setCell ⟨w.heap.size + 1 + 1, 1, none⟩ y).setCell ⟨w.heap.size + 1 + 1, 2, none⟩ v) := below_set3' h.bel (by omega) _ _ _
end
/-- What Series and Parallel hand back. -/
def SeP (w : World) (J : Ma) (x : Int) (e : Ending) (w' : World) : Prop := (x ≠ 0 ∧ JzP w x e w') ∨ (x = 0 ∧ JoP w J e w')
theorem JoP.fin {w W1 w7 : World} {J : Ma} {x y er : Int} {v : Value} {g : Nat} (h : JoP W1 J (.returned (.tuple #[.agg #[.int .i64 x, .int .i64 y, v], .int .i64 er])) w7) (hb : Below w.heap.size w W1) (hg : w.heap.size ≤ g) (hg1 : g < W1.heap.size) :
    JoP w J (.returned (.tuple #[.agg #[.int .i64 x, .int .i64 y, v], .int .i64 er])) (((w7.setCell ⟨g, 0, none⟩ (.int .i64 x)).setCell ⟨g, 1, none⟩ (.int .i64 y)).setCell ⟨g, 2, none⟩ v) := by
  rcases h with ⟨h1, p, k, gs, h2, h3, h4, h5, h6⟩ | ⟨h1, h2, h3⟩
  · refine Or.inl ⟨h1, p, k, gs, h2, h3, h4, ?_, below_set3' (below_next hb h6) hg _ _ _⟩
    have h7 := h5.out
    have hz := hb.size
    have hpp := h7.p0
    have h8 : Wb w.heap.size p k (Mc.prt J (Mc.ord J)).r gs w7 := ⟨h7.blk, h7.row, fun q hq => ⟨by have := (h7.own q hq).1; omega, (h7.own q hq).2⟩, h7.inj, by omega⟩
    exact ((h8.far (by omega) (fun q hq => by have := (h7.own q hq).1; omega) _).far (by omega) (fun q hq => by have := (h7.own q hq).1; omega) _).far (by omega) (fun q hq => by have := (h7.own q hq).1; omega) _
  · exact Or.inr ⟨h1, h2, below_set3' (below_next hb h3) hg _ _ _⟩
theorem JoP.shape {w w' : World} {J : Ma} {e : Ending} (h : JoP w J e w') : (∃ (x y er : Int) (X : Option Addr) (n c : Nat), e = .returned (.tuple #[.agg #[.int .i64 x, .int .i64 y, .slice X n c], .int .i64 er])) ∧ Below w.heap.size w w' := by
  rcases h with ⟨_, p, k, gs, h2, _, _, _, h6⟩ | ⟨_, h2, h3⟩
  · exact ⟨⟨_, _, _, _, _, _, h2⟩, h6⟩
  · exact ⟨⟨_, _, _, _, _, _, h2⟩, h3⟩
/-- The error of Series. -/
def sech (a b : Ma) : Int := if jch a b ≠ 0 then jch a b else if a.o ≠ b.i then 5 else 0
theorem jch_ok {a b : Ma} (h : jch a b = 0) : Mc.Val a ∧ Mc.Val b := by
  unfold jch at h
  split at h
  · contradiction
  · rename_i h1
    exact ⟨Mc.val_of (by simpa using h1), Mc.val_of h⟩
theorem jch_of {a b : Ma} (va : Mc.Val a) (vb : Mc.Val b) : jch a b = 0 := by
  unfold jch
  rw [if_neg (by rw [Mc.chk_of va]; simp), Mc.chk_of vb]
set_option maxRecDepth 100000 in
set_option maxHeartbeats 2000000 in
theorem series_any (a b : Ma) (A B : Option Addr) (n c n2 c2 : Nat) (w : World) (hra : RdR w A a.r) (hn : a.r.length = n) (hnb : n ≤ 1000000) (hrl : ∀ row ∈ a.r, row.length ≤ 1000000) (hrb : RdR w B b.r) (hn2 : b.r.length = n2) (hnb2 : n2 ≤ 1000000) (hrl2 : ∀ row ∈ b.r, row.length ≤ 1000000) :
    Calls Try.prog 18 #[.agg #[.int .i64 a.i, .int .i64 a.o, .slice A n c], .agg #[.int .i64 b.i, .int .i64 b.o, .slice B n2 c2]] w (SeP w (Mc.ser a b) (sech a b)) := by
  have hJ0 := J2.mk_ w a b A B n c n2 c2
  obtain ⟨x0, x1, x2⟩ := hJ0.ba.cells
  obtain ⟨y0, y1, y2⟩ := hJ0.bb.cells
  obtain ⟨W0, hW0⟩ : ∃ W0, (boxM (boxM w a.i a.o A n c) b.i b.o B n2 c2).alloc (.cells #[.int .i64 0, .int .i64 0, .slice none 0 0] 24) = W0 := ⟨_, rfl⟩
  have HCK := Lib.hid (jcheck2_any a b A B n c n2 c2 W0.heap.size (W0.alloc (.cells #[.int .i64 a.i, .int .i64 a.o, .slice A n c, .int .i64 b.i, .int .i64 b.o, .slice B n2 c2] 24)) (heap_alloc_new W0 _) (by rw [← hW0]; exact (hra.below hJ0.bel).below ((Below.refl _ _).alloc (Nat.le_refl _) _)) hn hnb hrl (by rw [← hW0]; exact (hrb.below hJ0.bel).below ((Below.refl _ _).alloc (Nat.le_refl _) _)) hn2 hnb2 hrl2)
  have HRA := Lib.hid hra
  have HRB := Lib.hid hrb
  have HN := Lib.hid hn
  have HN2 := Lib.hid hn2
  obtain ⟨P0, hP0⟩ : ∃ P0, SeP w (Mc.ser a b) (sech a b) = P0 := ⟨_, rfl⟩
  have HP0 := Lib.hid hP0
  rw [hP0]
  rw [hW0] at hJ0 x0 x1 x2 y0 y1 y2
  have HJ0 := Lib.hid hJ0
  have HW0 := Lib.hid hW0
  clear hJ0 hW0 hP0 hra hrb hn hn2 hrl hrl2 hnb hnb2
  go_enter Try.func18, Try.ntmps18
  go_upto_region 1 with fail
  try rw [HW0.out]
  go_wp2_with fail
  refine HCK.out.mono ?_
  rintro e w1 ⟨rfl, hb1⟩
  have hJ1 := Lib.hid (HJ0.out.below (((Below.refl _ _).alloc (Nat.le_refl _) _).trans (hb1.mono (by simp))))
  clear x0 x1 x2 y0 y1 y2 hb1 HJ0 HW0 HCK
  obtain ⟨e0, e1, e2⟩ := hJ1.out.bz.cells
  obtain ⟨f0, f1, f2⟩ := hJ1.out.bz.frozen
  obtain ⟨x0, x1, x2⟩ := hJ1.out.ba.cells
  obtain ⟨y0, y1, y2⟩ := hJ1.out.bb.cells
  have hRZ := set3_reads hJ1.out.bz (.int .i64 0) (.int .i64 0) (.slice none 0 0)
  have hBZ := Lib.hid (hJ1.out.err (.int .i64 0) (.int .i64 0) (.slice none 0 0))
  by_cases hc : jch a b = 0
  · obtain ⟨va, vb⟩ := jch_ok hc
    have VA := Lib.hid va
    have VB := Lib.hid vb
    have HC := Lib.hid hc
    rw [hc]
    clear hc va vb
    by_cases ho : a.o = b.i
    · have hoe : Hid (sech a b = 0) := by show _ = _; unfold sech; rw [if_neg (by rw [HC.out]; simp), if_neg (by simp [ho])]
      have HO := Lib.hid ho
      have hob : (a.o == b.i) = true := by rw [beq_iff_eq]; exact ho
      have hCJ := joint_any (.pointer (some ⟨w.heap.size, 0, none⟩)) (.pointer (some ⟨w.heap.size + 1, 0, none⟩)) a.i.toNat b.o n n2 (Mc.serF a b) w1 (by have := VA.out.i0; omega) (by have := VA.out.i1; omega) VB.out.o0 VB.out.o1 (by have := VA.out.r0; have := HN.out; omega) (by have := VB.out.r0; have := HN2.out; omega) (by have := VA.out.r1; have := HN.out; omega) (by have := VB.out.r1; have := HN2.out; omega)
        (by have h := Mc.ser_js VA.out VB.out HO.out; rw [HN.out, HN2.out] at h; rw [show ((a.i.toNat : Nat) : Int) = a.i by have := VA.out.i0; omega]; exact h)
        (fun W s t cc hb hs ht hcc => ser1_any a b VA.out VB.out HO.out w.heap.size (w.heap.size + 1) A B n n2 c c2 s t cc W (hJ1.out.ba.mvB hb) (hJ1.out.bb.mvB hb) ((HRA.out.below hJ1.out.bel).below hb) ((HRB.out.below hJ1.out.bel).below hb) HN.out HN2.out hs ht (by have := VA.out.i0; omega))
      rw [show ((a.i.toNat : Nat) : Int) = a.i by have := VA.out.i0; omega, show Mc.jm a.i b.o n n2 (Mc.serF a b) = Mc.ser a b by unfold Mc.ser; rw [HN.out, HN2.out]] at hCJ
      have HCJ := Lib.hid hCJ
      clear hCJ ho hRZ hBZ
      go_wp2_with fail
      with_reducible refine HCJ.out.mono ?_
      intro e w7 hJo
      obtain ⟨⟨x, y, er, X7, n7, c7, rfl⟩, hb7⟩ := hJo.shape
      have hZ := hJ1.out.bz.mvB hb7
      obtain ⟨r0, r1, r2⟩ := set3_reads hZ (.int .i64 x) (.int .i64 y) (.slice X7 n7 c7)
      have hF := Lib.hid (hJo.fin hJ1.out.bel (show w.heap.size ≤ w.heap.size + 1 + 1 by omega) (heap_lt hJ1.out.bz))
      obtain ⟨e0', e1', e2'⟩ := hZ.cells
      obtain ⟨f0', f1', f2'⟩ := hZ.frozen
      clear hZ hJo e0 e1 e2 f0 f1 f2 x0 x1 x2 y0 y1 y2 HCJ
      go_wp2
      refine bodyPost_ret (v := .tuple #[.agg #[.int .i64 x, .int .i64 y, .slice X7 n7 c7], .int .i64 er]) (by simp [results, Try.f18, go_sem, r0, r1, r2]) rfl ?_
      rw [← HP0.out]
      exact Or.inr ⟨hoe.out, hF.out⟩
    · have hoe : Hid (sech a b = 5) := by show _ = _; unfold sech; rw [if_neg (by rw [HC.out]; simp), if_pos ho]
      have hob : (a.o == b.i) = false := by rw [beq_eq_false_iff_ne]; exact ho
      obtain ⟨r0, r1, r2⟩ := hRZ
      clear ho
      go_wp2
      refine bodyPost_ret (v := .tuple #[.agg #[.int .i64 0, .int .i64 0, .slice none 0 0], .int .i64 5]) (by simp [results, Try.f18, go_sem, r0, r1, r2]) rfl ?_
      rw [← HP0.out, hoe.out]
      exact Or.inl ⟨by simp, rfl, hBZ.out⟩
  · obtain ⟨ce, hce⟩ : ∃ ce, jch a b = ce := ⟨_, rfl⟩
    have hec : Hid (sech a b = ce ∧ ce ≠ 0) := by
      refine ⟨?_, by rw [← hce]; exact hc⟩
      unfold sech
      rw [if_pos hc, hce]
    rw [hce] at hc ⊢
    have hne : (ce == 0) = false := by rw [beq_eq_false_iff_ne]; exact hc
    obtain ⟨r0, r1, r2⟩ := hRZ
    clear hce hc
    go_wp2
    refine bodyPost_ret (v := .tuple #[.agg #[.int .i64 0, .int .i64 0, .slice none 0 0], .int .i64 ce]) (by simp [results, Try.f18, go_sem, r0, r1, r2]) rfl ?_
    rw [← HP0.out, hec.out.1]
    exact Or.inl ⟨hec.out.2, rfl, hBZ.out⟩
/-- The error of Parallel. -/
def pech (a b : Ma) : Int := if jch a b ≠ 0 then jch a b else if a.i ≠ b.i then 5 else if 16 < a.o * b.o then 3 else 0
set_option maxRecDepth 100000 in
set_option maxHeartbeats 2000000 in
theorem parallel_any (a b : Ma) (A B : Option Addr) (n c n2 c2 : Nat) (w : World) (hra : RdR w A a.r) (hn : a.r.length = n) (hnb : n ≤ 1000000) (hrl : ∀ row ∈ a.r, row.length ≤ 1000000) (hrb : RdR w B b.r) (hn2 : b.r.length = n2) (hnb2 : n2 ≤ 1000000) (hrl2 : ∀ row ∈ b.r, row.length ≤ 1000000) :
    Calls Try.prog 28 #[.agg #[.int .i64 a.i, .int .i64 a.o, .slice A n c], .agg #[.int .i64 b.i, .int .i64 b.o, .slice B n2 c2]] w (SeP w (Mc.par a b) (pech a b)) := by
  have hJ0 := J2.mk_ w a b A B n c n2 c2
  obtain ⟨x0, x1, x2⟩ := hJ0.ba.cells
  obtain ⟨y0, y1, y2⟩ := hJ0.bb.cells
  obtain ⟨W0, hW0⟩ : ∃ W0, (boxM (boxM w a.i a.o A n c) b.i b.o B n2 c2).alloc (.cells #[.int .i64 0, .int .i64 0, .slice none 0 0] 24) = W0 := ⟨_, rfl⟩
  have HCK := Lib.hid (jcheck2_any a b A B n c n2 c2 W0.heap.size (W0.alloc (.cells #[.int .i64 a.i, .int .i64 a.o, .slice A n c, .int .i64 b.i, .int .i64 b.o, .slice B n2 c2] 24)) (heap_alloc_new W0 _) (by rw [← hW0]; exact (hra.below hJ0.bel).below ((Below.refl _ _).alloc (Nat.le_refl _) _)) hn hnb hrl (by rw [← hW0]; exact (hrb.below hJ0.bel).below ((Below.refl _ _).alloc (Nat.le_refl _) _)) hn2 hnb2 hrl2)
  have HRA := Lib.hid hra
  have HRB := Lib.hid hrb
  have HN := Lib.hid hn
  have HN2 := Lib.hid hn2
  obtain ⟨P0, hP0⟩ : ∃ P0, SeP w (Mc.par a b) (pech a b) = P0 := ⟨_, rfl⟩
  have HP0 := Lib.hid hP0
  rw [hP0]
  rw [hW0] at hJ0 x0 x1 x2 y0 y1 y2
  have HJ0 := Lib.hid hJ0
  have HW0 := Lib.hid hW0
  clear hJ0 hW0 hP0 hra hrb hn hn2 hrl hrl2 hnb hnb2
  go_enter Try.func28, Try.ntmps28
  go_upto_region 1 with fail
  try rw [HW0.out]
  go_wp2_with fail
  refine HCK.out.mono ?_
  rintro e w1 ⟨rfl, hb1⟩
  have hJ1 := Lib.hid (HJ0.out.below (((Below.refl _ _).alloc (Nat.le_refl _) _).trans (hb1.mono (by simp))))
  clear x0 x1 x2 y0 y1 y2 hb1 HJ0 HW0 HCK
  obtain ⟨e0, e1, e2⟩ := hJ1.out.bz.cells
  obtain ⟨f0, f1, f2⟩ := hJ1.out.bz.frozen
  obtain ⟨x0, x1, x2⟩ := hJ1.out.ba.cells
  obtain ⟨y0, y1, y2⟩ := hJ1.out.bb.cells
  have hRZ := set3_reads hJ1.out.bz (.int .i64 0) (.int .i64 0) (.slice none 0 0)
  have hBZ := Lib.hid (hJ1.out.err (.int .i64 0) (.int .i64 0) (.slice none 0 0))
  by_cases hc : jch a b = 0
  · obtain ⟨va, vb⟩ := jch_ok hc
    have VA := Lib.hid va
    have VB := Lib.hid vb
    have HC := Lib.hid hc
    rw [hc]
    clear hc va vb
    by_cases ho : a.i = b.i
    · have HO := Lib.hid ho
      have hob : (a.i == b.i) = true := by rw [beq_iff_eq]; exact ho
      obtain ⟨op, hop⟩ : ∃ op, a.o * b.o = op := ⟨_, rfl⟩
      have HOP := Lib.hid hop
      have hopb : 1 ≤ op ∧ op ≤ 256 := by
        have h1 := VA.out.o0; have h2 := VB.out.o0; have h3 := VA.out.o1; have h4 := VB.out.o1
        have h5 : 1 * 1 ≤ a.o * b.o := Int.mul_le_mul h1 h2 (by omega) (by omega)
        have h6 : a.o * b.o ≤ 16 * 16 := Int.mul_le_mul h3 h4 (by omega) (by omega)
        omega
      have hwr : IntKind.i64.wrap (a.o * b.o) = op := by rw [hop]; exact IntWalk.i64_in _ ⟨by omega, by omega⟩
      clear hop
      by_cases h16 : 16 < op
      · have hoe : Hid (pech a b = 3) := by show _ = _; unfold pech; rw [if_neg (by rw [HC.out]; simp), if_neg (by simp [HO.out]), if_pos (by rw [HOP.out]; exact h16)]
        have hd : decide (16 < op) = true := decide_eq_true h16
        obtain ⟨r0, r1, r2⟩ := hRZ
        clear ho
        go_wp2
        refine bodyPost_ret (v := .tuple #[.agg #[.int .i64 0, .int .i64 0, .slice none 0 0], .int .i64 3]) (by simp [results, Try.f28, go_sem, r0, r1, r2]) rfl ?_
        rw [← HP0.out, hoe.out]
        exact Or.inl ⟨by simp, rfl, hBZ.out⟩
      · have hoe : Hid (pech a b = 0) := by show _ = _; unfold pech; rw [if_neg (by rw [HC.out]; simp), if_neg (by simp [HO.out]), if_neg (by rw [HOP.out]; exact h16)]
        have hd : decide (16 < op) = false := decide_eq_false h16
        have hCJ := joint_par (.pointer (some ⟨w.heap.size, 0, none⟩)) (.pointer (some ⟨w.heap.size + 1, 0, none⟩)) a.i.toNat op n n2 (Mc.parF a b) w1 (by have := VA.out.i0; omega) (by have := VA.out.i1; omega) hopb.1 (by omega) (by have := VA.out.r0; have := HN.out; omega) (by have := VB.out.r0; have := HN2.out; omega) (by have := VA.out.r1; have := HN.out; omega) (by have := VB.out.r1; have := HN2.out; omega)
          (by have h := Mc.par_js VA.out VB.out HO.out; rw [HN.out, HN2.out, HOP.out] at h; rw [show ((a.i.toNat : Nat) : Int) = a.i by have := VA.out.i0; omega]; exact h)
          (fun W s t cc hb hs ht hcc => par1_any a b VA.out VB.out HO.out w.heap.size (w.heap.size + 1) A B n n2 c c2 s t cc W (hJ1.out.ba.mvB hb) (hJ1.out.bb.mvB hb) ((HRA.out.below hJ1.out.bel).below hb) ((HRB.out.below hJ1.out.bel).below hb) HN.out HN2.out hs ht (by have := VA.out.i0; omega))
        rw [show ((a.i.toNat : Nat) : Int) = a.i by have := VA.out.i0; omega, show Mc.jm a.i op n n2 (Mc.parF a b) = Mc.par a b by unfold Mc.par; rw [HN.out, HN2.out, HOP.out]] at hCJ
        have HCJ := Lib.hid hCJ
        clear hCJ ho hRZ hBZ
        go_wp2_with fail
        with_reducible refine HCJ.out.mono ?_
        intro e w7 hJo
        obtain ⟨⟨x, y, er, X7, n7, c7, rfl⟩, hb7⟩ := hJo.shape
        have hZ := hJ1.out.bz.mvB hb7
        obtain ⟨r0, r1, r2⟩ := set3_reads hZ (.int .i64 x) (.int .i64 y) (.slice X7 n7 c7)
        have hF := Lib.hid (hJo.fin hJ1.out.bel (show w.heap.size ≤ w.heap.size + 1 + 1 by omega) (heap_lt hJ1.out.bz))
        obtain ⟨e0', e1', e2'⟩ := hZ.cells
        obtain ⟨f0', f1', f2'⟩ := hZ.frozen
        clear hZ hJo e0 e1 e2 f0 f1 f2 x0 x1 x2 y0 y1 y2 HCJ
        go_wp2
        refine bodyPost_ret (v := .tuple #[.agg #[.int .i64 x, .int .i64 y, .slice X7 n7 c7], .int .i64 er]) (by simp [results, Try.f28, go_sem, r0, r1, r2]) rfl ?_
        rw [← HP0.out]
        exact Or.inr ⟨hoe.out, hF.out⟩
    · have hoe : Hid (pech a b = 5) := by show _ = _; unfold pech; rw [if_neg (by rw [HC.out]; simp), if_pos ho]
      have hob : (a.i == b.i) = false := by rw [beq_eq_false_iff_ne]; exact ho
      obtain ⟨r0, r1, r2⟩ := hRZ
      clear ho
      go_wp2
      refine bodyPost_ret (v := .tuple #[.agg #[.int .i64 0, .int .i64 0, .slice none 0 0], .int .i64 5]) (by simp [results, Try.f28, go_sem, r0, r1, r2]) rfl ?_
      rw [← HP0.out, hoe.out]
      exact Or.inl ⟨by simp, rfl, hBZ.out⟩
  · obtain ⟨ce, hce⟩ : ∃ ce, jch a b = ce := ⟨_, rfl⟩
    have hec : Hid (pech a b = ce ∧ ce ≠ 0) := by
      refine ⟨?_, by rw [← hce]; exact hc⟩
      unfold pech
      rw [if_pos hc, hce]
    rw [hce] at hc ⊢
    have hne : (ce == 0) = false := by rw [beq_eq_false_iff_ne]; exact hc
    obtain ⟨r0, r1, r2⟩ := hRZ
    clear hce hc
    go_wp2
    refine bodyPost_ret (v := .tuple #[.agg #[.int .i64 0, .int .i64 0, .slice none 0 0], .int .i64 ce]) (by simp [results, Try.f28, go_sem, r0, r1, r2]) rfl ?_
    rw [← HP0.out, hec.out.1]
    exact Or.inl ⟨hec.out.2, rfl, hBZ.out⟩
end Go.Proofs.Ytgafpmgdpigliaa
