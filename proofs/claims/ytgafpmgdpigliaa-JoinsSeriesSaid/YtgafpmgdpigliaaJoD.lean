/-
  Contract: Fill. No statement is proved here.
-/
import Derived.Test.YtgafpmgdpigliaaJoC
import Derived.Test.YtgafpmgdpigliaaQcZ
import Derived.Deep.QuietTactic
namespace Go.Proofs.Ytgafpmgdpigliaa
open Go.RowKit
open Mc (Ed Ma Wv nE)

theorem fill1_any (s : Int) (w : World) : Calls Try.prog 67 #[.int .i64 s] w fun e w' => e = .returned (.int .i64 s) ∧ w = w' := by
  go_enter Try.func67, Try.ntmps67
  go_wp2
  go_ret
  exact ⟨rfl, rfl⟩
theorem fill2_any (s n : Int) (g : Nat) (w : World) (h : w.cell? ⟨g, 0, none⟩ = some (.int .i64 n)) : Calls Try.prog 68 #[.int .i64 s, .pointer (some ⟨g, 0, none⟩)] w fun e w' => e = .returned (.int .i64 n) ∧ w = w' := by
  go_enter Try.func68, Try.ntmps68
  go_wp2
  go_ret
  exact ⟨rfl, rfl⟩
attribute [local go_sem] run_store_func
/-- The error of Fill. -/
def fech (a : Ma) (way out : Int) : Int := if Mc.chk a ≠ 0 then Mc.chk a else if 1 < way then 1 else if out < 0 then 1 else if a.o ≤ out then 1 else if way = 1 ∧ Mc.cmpV a = false ∧ a.r.length = 64 then 3 else 0
/-- Rows without undefined edges. -/
def filR (tgt : Nat → Int) (out : Int) (rs : List (List Ed)) : List (List Ed) := (List.range rs.length).map fun s => ((rs[s]?).getD []).map fun x => if x.1 = -1 then (tgt s, out) else x
/-- Where undefined edges lead. -/
def tgtF (way : Int) (n : Nat) (s : Nat) : Int := if way = 1 then n else s
/-- The rows before they are filled. -/
def filB (a : Ma) (way : Int) : List (List Ed) := a.r ++ if way = 1 ∧ Mc.cmpV a = false then [List.replicate a.i.toNat nE] else []
/-- The rows of a filled machine. -/
def filT (a : Ma) (way out : Int) : List (List Ed) := filR (tgtF way a.r.length) out (filB a way)
theorem filR_len (tgt : Nat → Int) (out : Int) (rs : List (List Ed)) : (filR tgt out rs).length = rs.length := by simp [filR]
theorem filR_at {tgt : Nat → Int} {out : Int} {rs : List (List Ed)} {s : Nat} {row : List Ed} (h : rs[s]? = some row) : (filR tgt out rs)[s]? = some (row.map fun x => if x.1 = -1 then (tgt s, out) else x) := by
  have hs := (List.getElem?_eq_some_iff.1 h).1
  unfold filR
  rw [List.getElem?_map, List.getElem?_range hs]
  simp [h]
theorem put_zero {a : Ma} {bl : List (List Ed)} {n : Nat} (hn : a.r.length = n) : putK bl (a.r.map fun row => row.map (Mc.sh 0)) 0 n = a.r ++ bl.drop n := by
  rw [map_sh0]
  unfold putK
  rw [List.take_zero, List.nil_append, List.take_of_length_le (by omega), Nat.zero_add]
theorem curK_get {row old : List Ed} {j : Nat} (h : row.length = old.length) (hj : j ≤ row.length) : (curK row old j)[j]? = old[j]? := by
  unfold curK
  rw [List.getElem?_append_right (by simp; omega), List.getElem?_drop]
  congr 1
  simp; omega
theorem Bw.put_ {w1 W W' : World} {g8 p N : Nat} {i8 o8 : Int} {gs : List Nat} {rs rs' : List (List Ed)} (h : Bw w1 g8 i8 o8 p N gs rs W) (hw : Wb w1.heap.size p N rs' gs W') (hb : Below w1.heap.size W W') (hk : ∀ k, k < W.heap.size → k ∉ gs → W'.heap[k]? = W.heap[k]?) : Bw w1 g8 i8 o8 p N gs rs' W' :=
  ⟨h.b1.trans hb, (hk _ (heap_lt h.bx) h.gn).trans h.bx, hw, h.gn, h.g1⟩
set_option maxRecDepth 100000 in
set_option maxHeartbeats 3000000 in
theorem fill_wX (a : Ma) (A : Option Addr) (n c : Nat) (way out : Int) (w : World) (hra : RdR w A a.r) (hn : a.r.length = n) (hnb : n ≤ 1000000) (hrl : ∀ row ∈ a.r, row.length ≤ 1000000) (hway : 1 < way) :
    Calls Try.prog 32 #[.agg #[.int .i64 a.i, .int .i64 a.o, .slice A n c], .int .u8 way, .int .i64 out] w (JeP w (fech a way out) a.i a.o (filT a way out)) := by
  have hJ0 := J1.mk_ w a A n c
  obtain ⟨x0, x1, x2⟩ := hJ0.ba.cells
  obtain ⟨W0, hW0⟩ : ∃ W0, (boxM w a.i a.o A n c).alloc (.cells #[.int .i64 0, .int .i64 0, .slice none 0 0] 24) = W0 := ⟨_, rfl⟩
  have hCK := pcomplete_any a.i a.o a.r A n c W0 (by rw [← hW0]; exact hra.below hJ0.bel) hn hnb hrl
  have ha3 : (⟨a.i, a.o, a.r⟩ : Ma) = a := rfl
  rw [ha3] at hCK
  have HCK := Lib.hid hCK
  have HRA := Lib.hid hra
  have HN := Lib.hid hn
  obtain ⟨P0, hP0⟩ : ∃ P0, JeP w (fech a way out) a.i a.o (filT a way out) = P0 := ⟨_, rfl⟩
  have HP0 := Lib.hid hP0
  rw [hP0]
  rw [hW0] at hJ0 x0 x1 x2
  have HJ0 := Lib.hid hJ0
  have HW0 := Lib.hid hW0
  clear hJ0 hW0 hP0 hra hn hrl hnb hCK ha3
  go_enter Try.func32, Try.ntmps32
  go_upto_region 1 with fail
  try rw [HW0.out]
  go_wp2_with fail
  with_reducible refine HCK.out.mono ?_
  rintro e w1 ⟨rfl, hb1⟩
  have hJ1 := Lib.hid (HJ0.out.below hb1)
  clear x0 x1 x2 hb1 HJ0 HW0 HCK
  obtain ⟨e0, e1, e2⟩ := hJ1.out.bz.cells
  obtain ⟨f0, f1, f2⟩ := hJ1.out.bz.frozen
  obtain ⟨x0, x1, x2⟩ := hJ1.out.ba.cells
  have hRZ := set3_reads hJ1.out.bz (.int .i64 0) (.int .i64 0) (.slice none 0 0)
  have hBZ := Lib.hid (hJ1.out.err (.int .i64 0) (.int .i64 0) (.slice none 0 0))
  obtain ⟨cv, hcv⟩ : ∃ cv, Mc.cmpV a = cv := ⟨_, rfl⟩
  have HCV := Lib.hid hcv
  rw [hcv]
  clear hcv
  by_cases hc : Mc.chk a = 0
  · have VA := Lib.hid (Mc.val_of hc)
    have HC := Lib.hid hc
    rw [hc]
    clear hc
    have hn64 : n ≤ 64 := by have := VA.out.r1; have := HN.out; omega
    have hd : decide ((1 : Int) < way) = true := decide_eq_true hway
    have HWY := Lib.hid hway
    clear hway
    have hoe : Hid (fech a way out = 1) := by show _ = _; unfold fech; rw [if_neg (by rw [HC.out]; simp), if_pos HWY.out]
    obtain ⟨r0, r1, r2⟩ := hRZ
    go_wp2
    refine bodyPost_ret (v := .tuple #[.agg #[.int .i64 0, .int .i64 0, .slice none 0 0], .int .i64 1]) (by simp [results, Try.f32, go_sem, r0, r1, r2]) rfl ?_
    rw [← HP0.out, hoe.out]
    exact Or.inl ⟨by simp, rfl, hBZ.out⟩

  · obtain ⟨ce, hce⟩ : ∃ ce, Mc.chk a = ce := ⟨_, rfl⟩
    have hec : Hid (fech a way out = ce ∧ ce ≠ 0) := by
      refine ⟨?_, by rw [← hce]; exact hc⟩
      unfold fech
      rw [if_pos hc, hce]
    rw [hce] at hc ⊢
    have hne : (ce == 0) = false := by rw [beq_eq_false_iff_ne]; exact hc
    obtain ⟨r0, r1, r2⟩ := hRZ
    clear hce hc
    go_wp2
    refine bodyPost_ret (v := .tuple #[.agg #[.int .i64 0, .int .i64 0, .slice none 0 0], .int .i64 ce]) (by simp [results, Try.f32, go_sem, r0, r1, r2]) rfl ?_
    rw [← HP0.out, hec.out.1]
    exact Or.inl ⟨hec.out.2, rfl, hBZ.out⟩
set_option maxRecDepth 100000 in
set_option maxHeartbeats 3000000 in
theorem fill_w0 (a : Ma) (A : Option Addr) (n c : Nat) (out : Int) (w : World) (hra : RdR w A a.r) (hn : a.r.length = n) (hnb : n ≤ 1000000) (hrl : ∀ row ∈ a.r, row.length ≤ 1000000)  :
    Calls Try.prog 32 #[.agg #[.int .i64 a.i, .int .i64 a.o, .slice A n c], .int .u8 0, .int .i64 out] w (JeP w (fech a 0 out) a.i a.o (filT a 0 out)) := by
  have hJ0 := J1.mk_ w a A n c
  obtain ⟨x0, x1, x2⟩ := hJ0.ba.cells
  obtain ⟨W0, hW0⟩ : ∃ W0, (boxM w a.i a.o A n c).alloc (.cells #[.int .i64 0, .int .i64 0, .slice none 0 0] 24) = W0 := ⟨_, rfl⟩
  have hCK := pcomplete_any a.i a.o a.r A n c W0 (by rw [← hW0]; exact hra.below hJ0.bel) hn hnb hrl
  have ha3 : (⟨a.i, a.o, a.r⟩ : Ma) = a := rfl
  rw [ha3] at hCK
  have HCK := Lib.hid hCK
  have HRA := Lib.hid hra
  have HN := Lib.hid hn
  obtain ⟨P0, hP0⟩ : ∃ P0, JeP w (fech a 0 out) a.i a.o (filT a 0 out) = P0 := ⟨_, rfl⟩
  have HP0 := Lib.hid hP0
  rw [hP0]
  rw [hW0] at hJ0 x0 x1 x2
  have HJ0 := Lib.hid hJ0
  have HW0 := Lib.hid hW0
  clear hJ0 hW0 hP0 hra hn hrl hnb hCK ha3
  go_enter Try.func32, Try.ntmps32
  go_upto_region 1 with fail
  try rw [HW0.out]
  go_wp2_with fail
  with_reducible refine HCK.out.mono ?_
  rintro e w1 ⟨rfl, hb1⟩
  have hJ1 := Lib.hid (HJ0.out.below hb1)
  clear x0 x1 x2 hb1 HJ0 HW0 HCK
  obtain ⟨e0, e1, e2⟩ := hJ1.out.bz.cells
  obtain ⟨f0, f1, f2⟩ := hJ1.out.bz.frozen
  obtain ⟨x0, x1, x2⟩ := hJ1.out.ba.cells
  have hRZ := set3_reads hJ1.out.bz (.int .i64 0) (.int .i64 0) (.slice none 0 0)
  have hBZ := Lib.hid (hJ1.out.err (.int .i64 0) (.int .i64 0) (.slice none 0 0))
  obtain ⟨cv, hcv⟩ : ∃ cv, Mc.cmpV a = cv := ⟨_, rfl⟩
  have HCV := Lib.hid hcv
  rw [hcv]
  clear hcv
  by_cases hc : Mc.chk a = 0
  · have VA := Lib.hid (Mc.val_of hc)
    have HC := Lib.hid hc
    rw [hc]
    clear hc
    have hn64 : n ≤ 64 := by have := VA.out.r1; have := HN.out; omega
    by_cases h0 : out < 0
    · have hd0 : decide (out < 0) = true := decide_eq_true h0
      have H0 := Lib.hid h0
      clear h0
      have hoe : Hid (fech a 0 out = 1) := by show _ = _; unfold fech; rw [if_neg (by rw [HC.out]; simp), if_neg (by omega), if_pos H0.out]
      obtain ⟨r0, r1, r2⟩ := hRZ
      go_wp2
      refine bodyPost_ret (v := .tuple #[.agg #[.int .i64 0, .int .i64 0, .slice none 0 0], .int .i64 1]) (by simp [results, Try.f32, go_sem, r0, r1, r2]) rfl ?_
      rw [← HP0.out, hoe.out]
      exact Or.inl ⟨by simp, rfl, hBZ.out⟩
    by_cases h1 : a.o ≤ out
    · have hd0 : decide (out < 0) = false := decide_eq_false h0
      have hd1 : decide (a.o ≤ out) = true := decide_eq_true h1
      have H1 := Lib.hid h1
      have H0 := Lib.hid h0
      clear h1 h0
      have hoe : Hid (fech a 0 out = 1) := by show _ = _; unfold fech; rw [if_neg (by rw [HC.out]; simp), if_neg (by omega), if_neg (by have := H0.out; omega), if_pos H1.out]
      obtain ⟨r0, r1, r2⟩ := hRZ
      go_wp2
      refine bodyPost_ret (v := .tuple #[.agg #[.int .i64 0, .int .i64 0, .slice none 0 0], .int .i64 1]) (by simp [results, Try.f32, go_sem, r0, r1, r2]) rfl ?_
      rw [← HP0.out, hoe.out]
      exact Or.inl ⟨by simp, rfl, hBZ.out⟩
    have hd0 : decide (out < 0) = false := decide_eq_false h0
    have hd1 : decide (a.o ≤ out) = false := decide_eq_false h1
    have H0 := Lib.hid h0
    have H1 := Lib.hid h1
    clear h0 h1
    have hs1 : IntKind.i64.wrap ((n : Int) + 1) = (n : Int) + 1 := IntWalk.i64_in _ ⟨by omega, by omega⟩
    have hq : Hid (∀ (v : Value), True) := fun _ => trivial
    clear hRZ hBZ hq
    go_upto_region 8 with fail
    obtain ⟨g10, hg10⟩ : ∃ g, w1.heap.size = g := ⟨_, rfl⟩
    have hbW2 : Below w1.heap.size w1 ((w1.alloc (.cells #[.int .i64 n] 3)).alloc (.cells #[.int .i64 n, .func (.func 67) #[] #[], .int .i64 ((n : Int) + 1), .func (.func 68) #[] #[.pointer (some ⟨w1.heap.size, 0, none⟩)]] 122)) := ((Below.refl _ _).alloc (Nat.le_refl _) _).alloc (by simp) _
    have hbk0 : ((w1.alloc (.cells #[.int .i64 n] 3)).alloc (.cells #[.int .i64 n, .func (.func 67) #[] #[], .int .i64 ((n : Int) + 1), .func (.func 68) #[] #[.pointer (some ⟨w1.heap.size, 0, none⟩)]] 122)).heap[w1.heap.size]? = some (.cells #[.int .i64 n] 3) := (Below.heap_alloc _ _ _ (by simp)).trans (heap_alloc_new w1 _)
    have hbk1 : ((w1.alloc (.cells #[.int .i64 n] 3)).alloc (.cells #[.int .i64 n, .func (.func 67) #[] #[], .int .i64 ((n : Int) + 1), .func (.func 68) #[] #[.pointer (some ⟨w1.heap.size, 0, none⟩)]] 122)).heap[w1.heap.size + 1]? = some (.cells #[.int .i64 n, .func (.func 67) #[] #[], .int .i64 ((n : Int) + 1), .func (.func 68) #[] #[.pointer (some ⟨w1.heap.size, 0, none⟩)]] 122) := by
      have h := heap_alloc_new (w1.alloc (.cells #[.int .i64 n] 3)) (.cells #[.int .i64 n, .func (.func 67) #[] #[], .int .i64 ((n : Int) + 1), .func (.func 68) #[] #[.pointer (some ⟨w1.heap.size, 0, none⟩)]] 122)
      rw [World.size_alloc] at h
      exact h
    obtain ⟨W2, hW2⟩ : ∃ W2, ((w1.alloc (.cells #[.int .i64 n] 3)).alloc (.cells #[.int .i64 n, .func (.func 67) #[] #[], .int .i64 ((n : Int) + 1), .func (.func 68) #[] #[.pointer (some ⟨w1.heap.size, 0, none⟩)]] 122)) = W2 := ⟨_, rfl⟩
    rw [hW2] at hbW2 hbk0 hbk1
    rw [hW2]
    rw [hg10] at hbk0 hbk1
    try rw [hg10]
    have hJ2 := Lib.hid (hJ1.out.below hbW2)
    have HK0 := Lib.hid hbk0
    have q0 : W2.cell? ⟨g10 + 1, 0, none⟩ = some (.int .i64 n) := by rw [cell_of_row _ _ _ _ _ _ hbk1]; rfl
    have q1 : W2.cell? ⟨g10 + 1, 1, none⟩ = some (.func (.func 67) #[] #[]) := by rw [cell_of_row _ _ _ _ _ _ hbk1]; rfl
    have q2 : W2.cell? ⟨g10 + 1, 2, none⟩ = some (.int .i64 ((n : Int) + 1)) := by rw [cell_of_row _ _ _ _ _ _ hbk1]; rfl
    have q3 : W2.cell? ⟨g10 + 1, 3, none⟩ = some (.func (.func 68) #[] #[.pointer (some ⟨g10, 0, none⟩)]) := by rw [cell_of_row _ _ _ _ _ _ hbk1]; rfl
    clear hbW2 hbk0 hbk1 hW2 hg10 e0 e1 e2 f0 f1 f2 x0 x1 x2 hs1
    go_quiet (fail)
    obtain ⟨W3, hW3⟩ : ∃ W3, W2.drewN nq = W3 := ⟨_, rfl⟩
    have hbd : Below W2.heap.size W2 W3 := by rw [← hW3]; exact below_drewN' (Below.refl _ _) _
    rw [hW3]
    have hJ3 := Lib.hid (hJ2.out.below hbd)
    have hK3 : Hid (W3.heap[g10]? = some (.cells #[.int .i64 n] 3)) := (hbd.block _ (heap_lt HK0.out)).trans HK0.out
    clear q0 q1 q2 q3 hbd hW3
    obtain ⟨x0, x1, x2⟩ := hJ3.out.ba.cells
    have c10 : W3.cell? ⟨g10, 0, none⟩ = some (.int .i64 n) := by rw [cell_of_row _ _ _ _ _ _ hK3.out]; rfl
    cases cv with
    | true =>
      have hoe : Hid (fech a 0 out = 0) := by show _ = _; unfold fech; rw [if_neg (by rw [HC.out]; simp), if_neg (by omega), if_neg (by have := H0.out; omega), if_neg (by have := H1.out; omega), if_neg (by rintro ⟨h, _⟩; omega)]
      obtain ⟨N, hN⟩ : ∃ N, n = N := ⟨_, rfl⟩
      have HNN := Lib.hid hN
      have hN64 : N ≤ 64 := by omega
      have hnN : n ≤ N := by omega
      have hd64 : decide ((64 : Int) < (n : Int)) = false := decide_eq_false (by omega)
      obtain ⟨i, hii⟩ : ∃ i, a.i.toNat = i := ⟨_, rfl⟩
      have hi : (i : Int) = a.i := by have := VA.out.i0; omega
      have HII := Lib.hid hii
      have HI := Lib.hid hi
      have hi16 : i ≤ 16 := by have := VA.out.i1; omega
      obtain ⟨bl, hbl⟩ : ∃ x, List.replicate N (List.replicate i nE) = x := ⟨_, rfl⟩
      have hBK := blank_any i a.o N W3 (by omega) (by omega)
      rw [hbl, hi, show ((N : Nat) : Int) = (n : Int) by omega] at hBK
      have HBK := Lib.hid hBK
      obtain ⟨F, hF⟩ : ∃ F, filB a 0 = F := ⟨_, rfl⟩
      have hFF : Hid (a.r ++ bl.drop n = F) := by show _ = _; rw [← hF]; rw [← hbl]; unfold filB; rw [if_neg (by omega), List.drop_of_length_le (by simp; omega)]
      have hbll : Hid (bl.length = N) := by show _ = _; rw [← hbl]; simp
      have hblr : Hid (∀ row ∈ bl, row.length = i) := fun row hr => by rw [← hbl] at hr; rw [List.eq_of_mem_replicate hr]; simp
      have hFl : Hid (F.length = N) := by show _ = _; rw [← hFF.out, List.length_append, List.length_drop, HN.out, hbll.out]; omega
      have hFr : Hid (∀ row ∈ F, row.length = i) := fun row hr => by
        rw [← hFF.out] at hr
        rcases List.mem_append.1 hr with hr | hr
        · have h1 := VA.out.len row hr; have h2 := HI.out; omega
        · exact hblr.out row (List.mem_of_mem_drop hr)
      obtain ⟨T, hT⟩ : ∃ T, filT a 0 out = T := ⟨_, rfl⟩
      have hTf : Hid (T = filR (tgtF 0 n) out F) := by show _ = _; rw [← hT, ← hF]; unfold filT; rw [HN.out]
      have hTl : Hid (T.length = N) := by show _ = _; rw [hTf.out, filR_len, hFl.out]
      have HT := Lib.hid hT
      have hfT : Hid (0 + T.length ≤ F.length) := by show _ ≤ _; rw [hTl.out, hFl.out]; omega
      clear hBK hbl hi hii hN hF hT
      go_wp2_with fail
      with_reducible refine HBK.out.mono ?_
      rintro e w4 ⟨p, gs, rfl, hgs, hWb, hb4⟩
      have hB0 := Bw.start (i := i) (o := a.o) hWb hb4
      have HGS := Lib.hid hgs
      have hz4 : w4.heap.size + 1 = (w4.alloc (.cells #[.int .i64 a.i, .int .i64 a.o, .slice (some ⟨p, 0, none⟩) N N] 24)).heap.size := by rw [World.size_alloc]
      obtain ⟨g8, hg8⟩ : ∃ g, w4.heap.size = g := ⟨_, rfl⟩
      rw [HI.out] at hB0
      obtain ⟨W5, hW5⟩ : ∃ W5, w4.alloc (.cells #[.int .i64 a.i, .int .i64 a.o, .slice (some ⟨p, 0, none⟩) N N] 24) = W5 := ⟨_, rfl⟩
      rw [hg8, hW5] at hB0
      have hB1 := Lib.hid hB0
      have HW5 := Lib.hid hW5
      have HG8 := Lib.hid hg8
      have h35 : W3.heap.size ≤ W5.heap.size := hB0.b1.size
      have hPU : Calls Try.prog 65 #[.slice (some ⟨p, 0, none⟩) N N, .agg #[.int .i64 a.i, .int .i64 a.o, .slice A n c], .int .i64 0] W5 _ :=
        put_any a VA.out i A n c 0 W3.heap.size p N bl gs W3 W5 HI.out.symm (HRA.out.below hJ3.out.bel) HN.out hB0.wb hgs hbll.out hN64 hB0.b1 (Nat.le_refl _) h35 hblr.out (by omega)
      rw [put_zero HN.out, hFF.out] at hPU
      have HPU := Lib.hid hPU
      clear hB0 hgs hWb hb4 hW5 hg8 hPU hz4 x0 x1 x2 c10
      obtain ⟨x0, x1, x2⟩ := (hJ3.out.below hB1.out.b1).ba.cells
      obtain ⟨z0, z1, z2⟩ := hB1.out.bx.cells
      go_upto_region 14 with fail
      try rw [HW5.out]
      try rw [HG8.out]
      go_wp2_with fail
      with_reducible refine HPU.out.mono ?_
      rintro e w6 ⟨rfl, hW6, hb6, hk6⟩
      have hB6 : Hid (Bw W3 g8 a.i a.o p N gs (putK F T 0 0) w6) := by show Bw _ _ _ _ _ _ _ _ _; rw [putK_zero]; exact hB1.out.put_ hW6 hb6 hk6
      clear hW6 hb6 hk6 x0 x1 x2 z0 z1 z2 HPU hB1 HBK
      obtain ⟨z0, z1, z2⟩ := hB6.out.bx.cells
      go_wp2
      clear z0 z1 z2
      go_loopw [77] (fun v wr => ∃ s : Nat, s ≤ N ∧ v = .int .i64 s ∧ Hid (Bw W3 g8 a.i a.o p N gs (putK F T 0 s) wr)) (fun v _ => N - (intOf v).toNat)
      case atStart => exact ⟨0, Nat.zero_le _, rfl, hB6⟩
      case round =>
        obtain ⟨s, hs, rfl, hB⟩ := hrel
        clear hB6
        obtain ⟨W7, rfl⟩ : ∃ W7, W7 = wr := ⟨wr, rfl⟩
        by_cases hsN : s < N
        · obtain ⟨gk, hgk⟩ : ∃ g, gs[s]? = some g := ⟨_, List.getElem?_eq_getElem (by rw [HGS.out]; exact hsN)⟩
          obtain ⟨old, hold⟩ : ∃ r, F[s]? = some r := ⟨_, List.getElem?_eq_getElem (by rw [hFl.out]; exact hsN)⟩
          have hol : Hid (old.length = i) := hFr.out old (List.mem_of_getElem? hold)
          obtain ⟨rowT, hrowT⟩ : ∃ r, (old.map fun x => if x.1 = -1 then (tgtF 0 n s, out) else x) = r := ⟨_, rfl⟩
          have hRT : Hid (∀ (j : Nat) x, old[j]? = some x → rowT[j]? = some (if x.1 = -1 then (tgtF 0 n s, out) else x)) := fun j x h => by rw [← hrowT, List.getElem?_map, h]; rfl
          have hrTl : Hid (rowT.length = i) := by show _ = _; rw [← hrowT, List.length_map]; exact hol.out
          have hTs : Hid (T[s]? = some rowT) := by show _ = _; rw [hTf.out, filR_at hold, hrowT]
          have hrl' : Hid (rowT.length = old.length) := by show _ = _; rw [hrTl.out, hol.out]
          have hcat : Hid ((putK F T 0 s)[s]? = some old) := by
            show _ = _
            have h := putK_at (f := 0) hfT.out (s := s) (by rw [hTl.out]; exact hsN)
            rw [Nat.zero_add] at h
            rw [h]
            exact hold
          have hP1 : Hid (Bw W3 g8 a.i a.o p N gs ((putK F T 0 s).set s (curK rowT old 0)) W7) := by
            show Bw _ _ _ _ _ _ _ _ _
            obtain ⟨h1, h2⟩ := List.getElem?_eq_some_iff.1 hcat.out
            rw [curK_zero, ← h2, List.set_getElem_self]
            exact hB.out
          have c0 := hB.out.wb.at_ hgk hcat.out (by rw [HGS.out, putK_len hfT.out (by rw [hTl.out]; omega), hFl.out]; exact Nat.le_refl _)
          rw [hol.out] at c0
          have hs1 : (s : Int) < N := by omega
          have HGK := Lib.hid hgk
          clear hB hgk hold hrowT
          go_wp2
          clear c0
          go_loopw [84] (fun v wr => ∃ j : Nat, j ≤ i ∧ v = .int .i64 j ∧ Hid (Bw W3 g8 a.i a.o p N gs ((putK F T 0 s).set s (curK rowT old j)) wr)) (fun v _ => i - (intOf v).toNat)
          case atStart => exact ⟨0, Nat.zero_le _, rfl, hP1⟩
          case round =>
            obtain ⟨j, hj, rfl, hB⟩ := hrel
            clear hP1
            by_cases hji : j < i
            · have hj1 : (j : Int) < i := by omega
              obtain ⟨⟨ex, ey⟩, hex⟩ : ∃ x, old[j]? = some x := ⟨_, List.getElem?_eq_getElem (by rw [hol.out]; exact hji)⟩
              obtain ⟨cur, hcur⟩ : ∃ cur, curK rowT old j = cur := ⟨_, rfl⟩
              have hcj : cur[j]? = some (ex, ey) := by rw [← hcur, curK_get hrl'.out (by rw [hrTl.out]; exact hj)]; exact hex
              have hcl : Hid (cur.length = i) := by show _ = _; rw [← hcur, curK_len hrl'.out (by rw [hrTl.out]; exact hj), hrTl.out]
              have hRj := hRT.out j _ hex
              have hra : Hid (((putK F T 0 s).set s cur)[s]? = some cur) := by
                show _ = _
                rw [List.getElem?_set_self (List.getElem?_eq_some_iff.1 hcat.out).1]
              rw [hcur] at hB
              obtain ⟨q0, q1⟩ := rowB_cells (hB.out.wb.row s gk cur HGK.out hra.out) hcj
              have hBE := hB.out.below ((Below.refl _ _).alloc (Nat.le_refl _) (.cells #[.int .i64 ex, .int .i64 ey] 27))
              by_cases hx : ex = -1
              · subst hx
                have hset : cur.set j ((s : Int), out) = curK rowT old (j + 1) := by
                  rw [← hcur]
                  refine curK_set hrl'.out ?_
                  rw [hRj, if_pos rfl]
                  rfl
                obtain ⟨⟨u0', u1', s0, s1⟩, sf⟩ := hBE.cells HGK.out hra.out hcl.out hji
                obtain ⟨v0, v1⟩ := rowB_cells (hB.out.wb.row s gk cur HGK.out hra.out) hcj
                have vf := blk_frz (hB.out.wb.row s gk cur HGK.out hra.out)
                have k10 : (wr.alloc (.cells #[.int .i64 (-1), .int .i64 ey] 27)).cell? ⟨g10, 0, none⟩ = some (.int .i64 n) := by
                  have h1 := (hBE.b1.block g10 (heap_lt hK3.out)).trans hK3.out
                  rw [cell_of_row _ _ _ _ _ _ h1]; rfl
                have hP := hBE.put (x := ((s : Int), out)) HGK.out hra.out (by rw [hcl.out]; exact hji)
                rw [List.set_set, hset] at hP
                have HP := Lib.hid hP
                have hgl := (hB.out.wb.own gk (List.mem_of_getElem? HGK.out)).2.2
                have hpl2 : p < wr.heap.size := heap_lt hB.out.wb.blk
                have HCL := Lib.hid (fill1_any (s : Int) (wr.alloc (.cells #[.int .i64 (-1), .int .i64 ey] 27)))
                clear hP hB hBE hcur hset hRj hcj hex
                go_wp2_with fail
                with_reducible refine HCL.out.mono ?_
                rintro e w9 ⟨rfl, rfl⟩
                go_wp2
                go_roundw
                case rel => exact ⟨j + 1, by omega, by go_num, by first | exact HP | (have h := HP.out; rw [World.setCell_alloc_past _ _ _ _ (by show gk < wr.heap.size; exact hgl), World.setCell_alloc_past _ _ _ _ (by show gk < (wr.setCell _ _).heap.size; simpa [World.setCell] using hgl)] at h; exact h)⟩
                case measure => simp [intOf]; omega
              · have hxb : (ex == -1) = false := by rw [beq_eq_false_iff_ne]; exact hx
                have hsk : curK rowT old (j + 1) = cur := by
                  rw [← hcur]
                  exact curK_skip (by rw [hRj, if_neg hx]) hex
                have hB2 : Hid (Bw W3 g8 a.i a.o p N gs ((putK F T 0 s).set s (curK rowT old (j + 1))) (wr.alloc (.cells #[.int .i64 ex, .int .i64 ey] 27))) := by show Bw _ _ _ _ _ _ _ _ _; rw [hsk]; exact hBE
                clear hB hBE hcur hsk hRj hcj hex
                go_wp2
                go_roundw
                case rel => exact ⟨j + 1, by omega, by go_num, hB2⟩
                case measure => simp [intOf]; omega
            · have hjn : j = i := by omega
              have hB' : Hid (Bw W3 g8 a.i a.o p N gs (putK F T 0 (s + 1)) wr) := by
                have h1 := hB.out
                have h2 : curK rowT old j = rowT := by
                  have h3 : j = rowT.length := by rw [hrTl.out]; exact hjn
                  rw [h3]
                  exact curK_all hrl'.out
                have h4 := putK_set hfT.out hTs.out
                rw [Nat.zero_add] at h4
                rw [h2, h4] at h1
                exact h1
              have HJN := Lib.hid hjn
              clear hB hjn
              go_wp2
              go_roundw
              case rel => exact ⟨s + 1, by omega, by go_num, hB'⟩
              case measure => simp [intOf]; omega
        · have hsn2 : s = N := by omega
          have hTT : Hid (putK F T 0 s = T) := by
            show _ = _
            unfold putK
            rw [List.take_zero, List.nil_append, List.take_of_length_le (by rw [hTl.out]; omega), List.drop_of_length_le (by rw [hFl.out]; omega), List.append_nil]
          rw [hTT.out] at hB
          have hZ := (hJ3.out.below hB.out.b1).bz
          obtain ⟨z0, z1, z2⟩ := hB.out.bx.cells
          obtain ⟨e0, e1, e2⟩ := hZ.cells
          obtain ⟨f0, f1, f2⟩ := hZ.frozen
          obtain ⟨r0, r1, r2⟩ := set3_reads hZ (.int .i64 a.i) (.int .i64 a.o) (.slice (some ⟨p, 0, none⟩) N N)
          have hwz := hJ3.out.bel.size
          have hbzl := heap_lt hJ3.out.bz
          have HFin : Hid (JeP w (fech a 0 out) a.i a.o (filT a 0 out) (.returned (.tuple #[.agg #[.int .i64 a.i, .int .i64 a.o, .slice (some ⟨p, 0, none⟩) N N], .int .i64 0])) (((W7.setCell ⟨w.heap.size + 1, 0, none⟩ (.int .i64 a.i)).setCell ⟨w.heap.size + 1, 1, none⟩ (.int .i64 a.o)).setCell ⟨w.heap.size + 1, 2, none⟩ (.slice (some ⟨p, 0, none⟩) N N))) := by
            refine Or.inr ⟨hoe.out, p, N, gs, rfl, by show _ = _; rw [HT.out]; exact hTl.out, HGS.out, ?_, below_set3' (below_next hJ3.out.bel hB.out.b1) (by omega) _ _ _⟩
            rw [HT.out]
            exact (hB.out.wb.far3 hbzl _ _ _).base (by omega)
          have HS2 := Lib.hid hsn2
          clear hB hZ hsn2
          go_wp2
          refine bodyPost_ret (v := .tuple #[.agg #[.int .i64 a.i, .int .i64 a.o, .slice (some ⟨p, 0, none⟩) N N], .int .i64 0]) (by simp [results, Try.f32, go_sem, r0, r1, r2]) rfl ?_
          rw [← HP0.out]
          exact HFin.out
    | false =>
      have hoe : Hid (fech a 0 out = 0) := by show _ = _; unfold fech; rw [if_neg (by rw [HC.out]; simp), if_neg (by omega), if_neg (by have := H0.out; omega), if_neg (by have := H1.out; omega), if_neg (by rintro ⟨h, _⟩; omega)]
      obtain ⟨N, hN⟩ : ∃ N, n = N := ⟨_, rfl⟩
      have HNN := Lib.hid hN
      have hN64 : N ≤ 64 := by omega
      have hnN : n ≤ N := by omega
      have hd64 : decide ((64 : Int) < (n : Int)) = false := decide_eq_false (by omega)
      obtain ⟨i, hii⟩ : ∃ i, a.i.toNat = i := ⟨_, rfl⟩
      have hi : (i : Int) = a.i := by have := VA.out.i0; omega
      have HII := Lib.hid hii
      have HI := Lib.hid hi
      have hi16 : i ≤ 16 := by have := VA.out.i1; omega
      obtain ⟨bl, hbl⟩ : ∃ x, List.replicate N (List.replicate i nE) = x := ⟨_, rfl⟩
      have hBK := blank_any i a.o N W3 (by omega) (by omega)
      rw [hbl, hi, show ((N : Nat) : Int) = (n : Int) by omega] at hBK
      have HBK := Lib.hid hBK
      obtain ⟨F, hF⟩ : ∃ F, filB a 0 = F := ⟨_, rfl⟩
      have hFF : Hid (a.r ++ bl.drop n = F) := by show _ = _; rw [← hF]; rw [← hbl]; unfold filB; rw [if_neg (by omega), List.drop_of_length_le (by simp; omega)]
      have hbll : Hid (bl.length = N) := by show _ = _; rw [← hbl]; simp
      have hblr : Hid (∀ row ∈ bl, row.length = i) := fun row hr => by rw [← hbl] at hr; rw [List.eq_of_mem_replicate hr]; simp
      have hFl : Hid (F.length = N) := by show _ = _; rw [← hFF.out, List.length_append, List.length_drop, HN.out, hbll.out]; omega
      have hFr : Hid (∀ row ∈ F, row.length = i) := fun row hr => by
        rw [← hFF.out] at hr
        rcases List.mem_append.1 hr with hr | hr
        · have h1 := VA.out.len row hr; have h2 := HI.out; omega
        · exact hblr.out row (List.mem_of_mem_drop hr)
      obtain ⟨T, hT⟩ : ∃ T, filT a 0 out = T := ⟨_, rfl⟩
      have hTf : Hid (T = filR (tgtF 0 n) out F) := by show _ = _; rw [← hT, ← hF]; unfold filT; rw [HN.out]
      have hTl : Hid (T.length = N) := by show _ = _; rw [hTf.out, filR_len, hFl.out]
      have HT := Lib.hid hT
      have hfT : Hid (0 + T.length ≤ F.length) := by show _ ≤ _; rw [hTl.out, hFl.out]; omega
      clear hBK hbl hi hii hN hF hT
      go_wp2_with fail
      with_reducible refine HBK.out.mono ?_
      rintro e w4 ⟨p, gs, rfl, hgs, hWb, hb4⟩
      have hB0 := Bw.start (i := i) (o := a.o) hWb hb4
      have HGS := Lib.hid hgs
      have hz4 : w4.heap.size + 1 = (w4.alloc (.cells #[.int .i64 a.i, .int .i64 a.o, .slice (some ⟨p, 0, none⟩) N N] 24)).heap.size := by rw [World.size_alloc]
      obtain ⟨g8, hg8⟩ : ∃ g, w4.heap.size = g := ⟨_, rfl⟩
      rw [HI.out] at hB0
      obtain ⟨W5, hW5⟩ : ∃ W5, w4.alloc (.cells #[.int .i64 a.i, .int .i64 a.o, .slice (some ⟨p, 0, none⟩) N N] 24) = W5 := ⟨_, rfl⟩
      rw [hg8, hW5] at hB0
      have hB1 := Lib.hid hB0
      have HW5 := Lib.hid hW5
      have HG8 := Lib.hid hg8
      have h35 : W3.heap.size ≤ W5.heap.size := hB0.b1.size
      have hPU : Calls Try.prog 65 #[.slice (some ⟨p, 0, none⟩) N N, .agg #[.int .i64 a.i, .int .i64 a.o, .slice A n c], .int .i64 0] W5 _ :=
        put_any a VA.out i A n c 0 W3.heap.size p N bl gs W3 W5 HI.out.symm (HRA.out.below hJ3.out.bel) HN.out hB0.wb hgs hbll.out hN64 hB0.b1 (Nat.le_refl _) h35 hblr.out (by omega)
      rw [put_zero HN.out, hFF.out] at hPU
      have HPU := Lib.hid hPU
      clear hB0 hgs hWb hb4 hW5 hg8 hPU hz4 x0 x1 x2 c10
      obtain ⟨x0, x1, x2⟩ := (hJ3.out.below hB1.out.b1).ba.cells
      obtain ⟨z0, z1, z2⟩ := hB1.out.bx.cells
      go_upto_region 14 with fail
      try rw [HW5.out]
      try rw [HG8.out]
      go_wp2_with fail
      with_reducible refine HPU.out.mono ?_
      rintro e w6 ⟨rfl, hW6, hb6, hk6⟩
      have hB6 : Hid (Bw W3 g8 a.i a.o p N gs (putK F T 0 0) w6) := by show Bw _ _ _ _ _ _ _ _ _; rw [putK_zero]; exact hB1.out.put_ hW6 hb6 hk6
      clear hW6 hb6 hk6 x0 x1 x2 z0 z1 z2 HPU hB1 HBK
      obtain ⟨z0, z1, z2⟩ := hB6.out.bx.cells
      go_wp2
      clear z0 z1 z2
      go_loopw [77] (fun v wr => ∃ s : Nat, s ≤ N ∧ v = .int .i64 s ∧ Hid (Bw W3 g8 a.i a.o p N gs (putK F T 0 s) wr)) (fun v _ => N - (intOf v).toNat)
      case atStart => exact ⟨0, Nat.zero_le _, rfl, hB6⟩
      case round =>
        obtain ⟨s, hs, rfl, hB⟩ := hrel
        clear hB6
        obtain ⟨W7, rfl⟩ : ∃ W7, W7 = wr := ⟨wr, rfl⟩
        by_cases hsN : s < N
        · obtain ⟨gk, hgk⟩ : ∃ g, gs[s]? = some g := ⟨_, List.getElem?_eq_getElem (by rw [HGS.out]; exact hsN)⟩
          obtain ⟨old, hold⟩ : ∃ r, F[s]? = some r := ⟨_, List.getElem?_eq_getElem (by rw [hFl.out]; exact hsN)⟩
          have hol : Hid (old.length = i) := hFr.out old (List.mem_of_getElem? hold)
          obtain ⟨rowT, hrowT⟩ : ∃ r, (old.map fun x => if x.1 = -1 then (tgtF 0 n s, out) else x) = r := ⟨_, rfl⟩
          have hRT : Hid (∀ (j : Nat) x, old[j]? = some x → rowT[j]? = some (if x.1 = -1 then (tgtF 0 n s, out) else x)) := fun j x h => by rw [← hrowT, List.getElem?_map, h]; rfl
          have hrTl : Hid (rowT.length = i) := by show _ = _; rw [← hrowT, List.length_map]; exact hol.out
          have hTs : Hid (T[s]? = some rowT) := by show _ = _; rw [hTf.out, filR_at hold, hrowT]
          have hrl' : Hid (rowT.length = old.length) := by show _ = _; rw [hrTl.out, hol.out]
          have hcat : Hid ((putK F T 0 s)[s]? = some old) := by
            show _ = _
            have h := putK_at (f := 0) hfT.out (s := s) (by rw [hTl.out]; exact hsN)
            rw [Nat.zero_add] at h
            rw [h]
            exact hold
          have hP1 : Hid (Bw W3 g8 a.i a.o p N gs ((putK F T 0 s).set s (curK rowT old 0)) W7) := by
            show Bw _ _ _ _ _ _ _ _ _
            obtain ⟨h1, h2⟩ := List.getElem?_eq_some_iff.1 hcat.out
            rw [curK_zero, ← h2, List.set_getElem_self]
            exact hB.out
          have c0 := hB.out.wb.at_ hgk hcat.out (by rw [HGS.out, putK_len hfT.out (by rw [hTl.out]; omega), hFl.out]; exact Nat.le_refl _)
          rw [hol.out] at c0
          have hs1 : (s : Int) < N := by omega
          have HGK := Lib.hid hgk
          clear hB hgk hold hrowT
          go_wp2
          clear c0
          go_loopw [84] (fun v wr => ∃ j : Nat, j ≤ i ∧ v = .int .i64 j ∧ Hid (Bw W3 g8 a.i a.o p N gs ((putK F T 0 s).set s (curK rowT old j)) wr)) (fun v _ => i - (intOf v).toNat)
          case atStart => exact ⟨0, Nat.zero_le _, rfl, hP1⟩
          case round =>
            obtain ⟨j, hj, rfl, hB⟩ := hrel
            clear hP1
            by_cases hji : j < i
            · have hj1 : (j : Int) < i := by omega
              obtain ⟨⟨ex, ey⟩, hex⟩ : ∃ x, old[j]? = some x := ⟨_, List.getElem?_eq_getElem (by rw [hol.out]; exact hji)⟩
              obtain ⟨cur, hcur⟩ : ∃ cur, curK rowT old j = cur := ⟨_, rfl⟩
              have hcj : cur[j]? = some (ex, ey) := by rw [← hcur, curK_get hrl'.out (by rw [hrTl.out]; exact hj)]; exact hex
              have hcl : Hid (cur.length = i) := by show _ = _; rw [← hcur, curK_len hrl'.out (by rw [hrTl.out]; exact hj), hrTl.out]
              have hRj := hRT.out j _ hex
              have hra : Hid (((putK F T 0 s).set s cur)[s]? = some cur) := by
                show _ = _
                rw [List.getElem?_set_self (List.getElem?_eq_some_iff.1 hcat.out).1]
              rw [hcur] at hB
              obtain ⟨q0, q1⟩ := rowB_cells (hB.out.wb.row s gk cur HGK.out hra.out) hcj
              have hBE := hB.out.below ((Below.refl _ _).alloc (Nat.le_refl _) (.cells #[.int .i64 ex, .int .i64 ey] 27))
              by_cases hx : ex = -1
              · subst hx
                have hset : cur.set j ((s : Int), out) = curK rowT old (j + 1) := by
                  rw [← hcur]
                  refine curK_set hrl'.out ?_
                  rw [hRj, if_pos rfl]
                  rfl
                obtain ⟨⟨u0', u1', s0, s1⟩, sf⟩ := hBE.cells HGK.out hra.out hcl.out hji
                obtain ⟨v0, v1⟩ := rowB_cells (hB.out.wb.row s gk cur HGK.out hra.out) hcj
                have vf := blk_frz (hB.out.wb.row s gk cur HGK.out hra.out)
                have k10 : (wr.alloc (.cells #[.int .i64 (-1), .int .i64 ey] 27)).cell? ⟨g10, 0, none⟩ = some (.int .i64 n) := by
                  have h1 := (hBE.b1.block g10 (heap_lt hK3.out)).trans hK3.out
                  rw [cell_of_row _ _ _ _ _ _ h1]; rfl
                have hP := hBE.put (x := ((s : Int), out)) HGK.out hra.out (by rw [hcl.out]; exact hji)
                rw [List.set_set, hset] at hP
                have HP := Lib.hid hP
                have hgl := (hB.out.wb.own gk (List.mem_of_getElem? HGK.out)).2.2
                have hpl2 : p < wr.heap.size := heap_lt hB.out.wb.blk
                have HCL := Lib.hid (fill1_any (s : Int) (wr.alloc (.cells #[.int .i64 (-1), .int .i64 ey] 27)))
                clear hP hB hBE hcur hset hRj hcj hex
                go_wp2_with fail
                with_reducible refine HCL.out.mono ?_
                rintro e w9 ⟨rfl, rfl⟩
                go_wp2
                go_roundw
                case rel => exact ⟨j + 1, by omega, by go_num, by first | exact HP | (have h := HP.out; rw [World.setCell_alloc_past _ _ _ _ (by show gk < wr.heap.size; exact hgl), World.setCell_alloc_past _ _ _ _ (by show gk < (wr.setCell _ _).heap.size; simpa [World.setCell] using hgl)] at h; exact h)⟩
                case measure => simp [intOf]; omega
              · have hxb : (ex == -1) = false := by rw [beq_eq_false_iff_ne]; exact hx
                have hsk : curK rowT old (j + 1) = cur := by
                  rw [← hcur]
                  exact curK_skip (by rw [hRj, if_neg hx]) hex
                have hB2 : Hid (Bw W3 g8 a.i a.o p N gs ((putK F T 0 s).set s (curK rowT old (j + 1))) (wr.alloc (.cells #[.int .i64 ex, .int .i64 ey] 27))) := by show Bw _ _ _ _ _ _ _ _ _; rw [hsk]; exact hBE
                clear hB hBE hcur hsk hRj hcj hex
                go_wp2
                go_roundw
                case rel => exact ⟨j + 1, by omega, by go_num, hB2⟩
                case measure => simp [intOf]; omega
            · have hjn : j = i := by omega
              have hB' : Hid (Bw W3 g8 a.i a.o p N gs (putK F T 0 (s + 1)) wr) := by
                have h1 := hB.out
                have h2 : curK rowT old j = rowT := by
                  have h3 : j = rowT.length := by rw [hrTl.out]; exact hjn
                  rw [h3]
                  exact curK_all hrl'.out
                have h4 := putK_set hfT.out hTs.out
                rw [Nat.zero_add] at h4
                rw [h2, h4] at h1
                exact h1
              have HJN := Lib.hid hjn
              clear hB hjn
              go_wp2
              go_roundw
              case rel => exact ⟨s + 1, by omega, by go_num, hB'⟩
              case measure => simp [intOf]; omega
        · have hsn2 : s = N := by omega
          have hTT : Hid (putK F T 0 s = T) := by
            show _ = _
            unfold putK
            rw [List.take_zero, List.nil_append, List.take_of_length_le (by rw [hTl.out]; omega), List.drop_of_length_le (by rw [hFl.out]; omega), List.append_nil]
          rw [hTT.out] at hB
          have hZ := (hJ3.out.below hB.out.b1).bz
          obtain ⟨z0, z1, z2⟩ := hB.out.bx.cells
          obtain ⟨e0, e1, e2⟩ := hZ.cells
          obtain ⟨f0, f1, f2⟩ := hZ.frozen
          obtain ⟨r0, r1, r2⟩ := set3_reads hZ (.int .i64 a.i) (.int .i64 a.o) (.slice (some ⟨p, 0, none⟩) N N)
          have hwz := hJ3.out.bel.size
          have hbzl := heap_lt hJ3.out.bz
          have HFin : Hid (JeP w (fech a 0 out) a.i a.o (filT a 0 out) (.returned (.tuple #[.agg #[.int .i64 a.i, .int .i64 a.o, .slice (some ⟨p, 0, none⟩) N N], .int .i64 0])) (((W7.setCell ⟨w.heap.size + 1, 0, none⟩ (.int .i64 a.i)).setCell ⟨w.heap.size + 1, 1, none⟩ (.int .i64 a.o)).setCell ⟨w.heap.size + 1, 2, none⟩ (.slice (some ⟨p, 0, none⟩) N N))) := by
            refine Or.inr ⟨hoe.out, p, N, gs, rfl, by show _ = _; rw [HT.out]; exact hTl.out, HGS.out, ?_, below_set3' (below_next hJ3.out.bel hB.out.b1) (by omega) _ _ _⟩
            rw [HT.out]
            exact (hB.out.wb.far3 hbzl _ _ _).base (by omega)
          have HS2 := Lib.hid hsn2
          clear hB hZ hsn2
          go_wp2
          refine bodyPost_ret (v := .tuple #[.agg #[.int .i64 a.i, .int .i64 a.o, .slice (some ⟨p, 0, none⟩) N N], .int .i64 0]) (by simp [results, Try.f32, go_sem, r0, r1, r2]) rfl ?_
          rw [← HP0.out]
          exact HFin.out

  · obtain ⟨ce, hce⟩ : ∃ ce, Mc.chk a = ce := ⟨_, rfl⟩
    have hec : Hid (fech a 0 out = ce ∧ ce ≠ 0) := by
      refine ⟨?_, by rw [← hce]; exact hc⟩
      unfold fech
      rw [if_pos hc, hce]
    rw [hce] at hc ⊢
    have hne : (ce == 0) = false := by rw [beq_eq_false_iff_ne]; exact hc
    obtain ⟨r0, r1, r2⟩ := hRZ
    clear hce hc
    go_wp2
    refine bodyPost_ret (v := .tuple #[.agg #[.int .i64 0, .int .i64 0, .slice none 0 0], .int .i64 ce]) (by simp [results, Try.f32, go_sem, r0, r1, r2]) rfl ?_
    rw [← HP0.out, hec.out.1]
    exact Or.inl ⟨hec.out.2, rfl, hBZ.out⟩
set_option maxRecDepth 100000 in
set_option maxHeartbeats 3000000 in
theorem fill_w1 (a : Ma) (A : Option Addr) (n c : Nat) (out : Int) (w : World) (hra : RdR w A a.r) (hn : a.r.length = n) (hnb : n ≤ 1000000) (hrl : ∀ row ∈ a.r, row.length ≤ 1000000)  :
    Calls Try.prog 32 #[.agg #[.int .i64 a.i, .int .i64 a.o, .slice A n c], .int .u8 1, .int .i64 out] w (JeP w (fech a 1 out) a.i a.o (filT a 1 out)) := by
  have hJ0 := J1.mk_ w a A n c
  obtain ⟨x0, x1, x2⟩ := hJ0.ba.cells
  obtain ⟨W0, hW0⟩ : ∃ W0, (boxM w a.i a.o A n c).alloc (.cells #[.int .i64 0, .int .i64 0, .slice none 0 0] 24) = W0 := ⟨_, rfl⟩
  have hCK := pcomplete_any a.i a.o a.r A n c W0 (by rw [← hW0]; exact hra.below hJ0.bel) hn hnb hrl
  have ha3 : (⟨a.i, a.o, a.r⟩ : Ma) = a := rfl
  rw [ha3] at hCK
  have HCK := Lib.hid hCK
  have HRA := Lib.hid hra
  have HN := Lib.hid hn
  obtain ⟨P0, hP0⟩ : ∃ P0, JeP w (fech a 1 out) a.i a.o (filT a 1 out) = P0 := ⟨_, rfl⟩
  have HP0 := Lib.hid hP0
  rw [hP0]
  rw [hW0] at hJ0 x0 x1 x2
  have HJ0 := Lib.hid hJ0
  have HW0 := Lib.hid hW0
  clear hJ0 hW0 hP0 hra hn hrl hnb hCK ha3
  go_enter Try.func32, Try.ntmps32
  go_upto_region 1 with fail
  try rw [HW0.out]
  go_wp2_with fail
  with_reducible refine HCK.out.mono ?_
  rintro e w1 ⟨rfl, hb1⟩
  have hJ1 := Lib.hid (HJ0.out.below hb1)
  clear x0 x1 x2 hb1 HJ0 HW0 HCK
  obtain ⟨e0, e1, e2⟩ := hJ1.out.bz.cells
  obtain ⟨f0, f1, f2⟩ := hJ1.out.bz.frozen
  obtain ⟨x0, x1, x2⟩ := hJ1.out.ba.cells
  have hRZ := set3_reads hJ1.out.bz (.int .i64 0) (.int .i64 0) (.slice none 0 0)
  have hBZ := Lib.hid (hJ1.out.err (.int .i64 0) (.int .i64 0) (.slice none 0 0))
  obtain ⟨cv, hcv⟩ : ∃ cv, Mc.cmpV a = cv := ⟨_, rfl⟩
  have HCV := Lib.hid hcv
  rw [hcv]
  clear hcv
  by_cases hc : Mc.chk a = 0
  · have VA := Lib.hid (Mc.val_of hc)
    have HC := Lib.hid hc
    rw [hc]
    clear hc
    have hn64 : n ≤ 64 := by have := VA.out.r1; have := HN.out; omega
    by_cases h0 : out < 0
    · have hd0 : decide (out < 0) = true := decide_eq_true h0
      have H0 := Lib.hid h0
      clear h0
      have hoe : Hid (fech a 1 out = 1) := by show _ = _; unfold fech; rw [if_neg (by rw [HC.out]; simp), if_neg (by omega), if_pos H0.out]
      obtain ⟨r0, r1, r2⟩ := hRZ
      go_wp2
      refine bodyPost_ret (v := .tuple #[.agg #[.int .i64 0, .int .i64 0, .slice none 0 0], .int .i64 1]) (by simp [results, Try.f32, go_sem, r0, r1, r2]) rfl ?_
      rw [← HP0.out, hoe.out]
      exact Or.inl ⟨by simp, rfl, hBZ.out⟩
    by_cases h1 : a.o ≤ out
    · have hd0 : decide (out < 0) = false := decide_eq_false h0
      have hd1 : decide (a.o ≤ out) = true := decide_eq_true h1
      have H1 := Lib.hid h1
      have H0 := Lib.hid h0
      clear h1 h0
      have hoe : Hid (fech a 1 out = 1) := by show _ = _; unfold fech; rw [if_neg (by rw [HC.out]; simp), if_neg (by omega), if_neg (by have := H0.out; omega), if_pos H1.out]
      obtain ⟨r0, r1, r2⟩ := hRZ
      go_wp2
      refine bodyPost_ret (v := .tuple #[.agg #[.int .i64 0, .int .i64 0, .slice none 0 0], .int .i64 1]) (by simp [results, Try.f32, go_sem, r0, r1, r2]) rfl ?_
      rw [← HP0.out, hoe.out]
      exact Or.inl ⟨by simp, rfl, hBZ.out⟩
    have hd0 : decide (out < 0) = false := decide_eq_false h0
    have hd1 : decide (a.o ≤ out) = false := decide_eq_false h1
    have H0 := Lib.hid h0
    have H1 := Lib.hid h1
    clear h0 h1
    have hs1 : IntKind.i64.wrap ((n : Int) + 1) = (n : Int) + 1 := IntWalk.i64_in _ ⟨by omega, by omega⟩
    have hq : Hid (∀ (v : Value), True) := fun _ => trivial
    clear hRZ hBZ hq
    go_upto_region 8 with fail
    obtain ⟨g10, hg10⟩ : ∃ g, w1.heap.size = g := ⟨_, rfl⟩
    have hbW2 : Below w1.heap.size w1 ((w1.alloc (.cells #[.int .i64 n] 3)).alloc (.cells #[.int .i64 n, .func (.func 67) #[] #[], .int .i64 ((n : Int) + 1), .func (.func 68) #[] #[.pointer (some ⟨w1.heap.size, 0, none⟩)]] 122)) := ((Below.refl _ _).alloc (Nat.le_refl _) _).alloc (by simp) _
    have hbk0 : ((w1.alloc (.cells #[.int .i64 n] 3)).alloc (.cells #[.int .i64 n, .func (.func 67) #[] #[], .int .i64 ((n : Int) + 1), .func (.func 68) #[] #[.pointer (some ⟨w1.heap.size, 0, none⟩)]] 122)).heap[w1.heap.size]? = some (.cells #[.int .i64 n] 3) := (Below.heap_alloc _ _ _ (by simp)).trans (heap_alloc_new w1 _)
    have hbk1 : ((w1.alloc (.cells #[.int .i64 n] 3)).alloc (.cells #[.int .i64 n, .func (.func 67) #[] #[], .int .i64 ((n : Int) + 1), .func (.func 68) #[] #[.pointer (some ⟨w1.heap.size, 0, none⟩)]] 122)).heap[w1.heap.size + 1]? = some (.cells #[.int .i64 n, .func (.func 67) #[] #[], .int .i64 ((n : Int) + 1), .func (.func 68) #[] #[.pointer (some ⟨w1.heap.size, 0, none⟩)]] 122) := by
      have h := heap_alloc_new (w1.alloc (.cells #[.int .i64 n] 3)) (.cells #[.int .i64 n, .func (.func 67) #[] #[], .int .i64 ((n : Int) + 1), .func (.func 68) #[] #[.pointer (some ⟨w1.heap.size, 0, none⟩)]] 122)
      rw [World.size_alloc] at h
      exact h
    obtain ⟨W2, hW2⟩ : ∃ W2, ((w1.alloc (.cells #[.int .i64 n] 3)).alloc (.cells #[.int .i64 n, .func (.func 67) #[] #[], .int .i64 ((n : Int) + 1), .func (.func 68) #[] #[.pointer (some ⟨w1.heap.size, 0, none⟩)]] 122)) = W2 := ⟨_, rfl⟩
    rw [hW2] at hbW2 hbk0 hbk1
    rw [hW2]
    rw [hg10] at hbk0 hbk1
    try rw [hg10]
    have hJ2 := Lib.hid (hJ1.out.below hbW2)
    have HK0 := Lib.hid hbk0
    have q0 : W2.cell? ⟨g10 + 1, 0, none⟩ = some (.int .i64 n) := by rw [cell_of_row _ _ _ _ _ _ hbk1]; rfl
    have q1 : W2.cell? ⟨g10 + 1, 1, none⟩ = some (.func (.func 67) #[] #[]) := by rw [cell_of_row _ _ _ _ _ _ hbk1]; rfl
    have q2 : W2.cell? ⟨g10 + 1, 2, none⟩ = some (.int .i64 ((n : Int) + 1)) := by rw [cell_of_row _ _ _ _ _ _ hbk1]; rfl
    have q3 : W2.cell? ⟨g10 + 1, 3, none⟩ = some (.func (.func 68) #[] #[.pointer (some ⟨g10, 0, none⟩)]) := by rw [cell_of_row _ _ _ _ _ _ hbk1]; rfl
    clear hbW2 hbk0 hbk1 hW2 hg10 e0 e1 e2 f0 f1 f2 x0 x1 x2 hs1
    go_quiet (fail)
    obtain ⟨W3, hW3⟩ : ∃ W3, W2.drewN nq = W3 := ⟨_, rfl⟩
    have hbd : Below W2.heap.size W2 W3 := by rw [← hW3]; exact below_drewN' (Below.refl _ _) _
    rw [hW3]
    have hJ3 := Lib.hid (hJ2.out.below hbd)
    have hK3 : Hid (W3.heap[g10]? = some (.cells #[.int .i64 n] 3)) := (hbd.block _ (heap_lt HK0.out)).trans HK0.out
    clear q0 q1 q2 q3 hbd hW3
    obtain ⟨x0, x1, x2⟩ := hJ3.out.ba.cells
    have c10 : W3.cell? ⟨g10, 0, none⟩ = some (.int .i64 n) := by rw [cell_of_row _ _ _ _ _ _ hK3.out]; rfl
    cases cv with
    | true =>
      have hoe : Hid (fech a 1 out = 0) := by show _ = _; unfold fech; rw [if_neg (by rw [HC.out]; simp), if_neg (by omega), if_neg (by have := H0.out; omega), if_neg (by have := H1.out; omega), if_neg (by rw [HCV.out]; simp)]
      obtain ⟨N, hN⟩ : ∃ N, n = N := ⟨_, rfl⟩
      have HNN := Lib.hid hN
      have hN64 : N ≤ 64 := by omega
      have hnN : n ≤ N := by omega
      have hd64 : decide ((64 : Int) < (n : Int)) = false := decide_eq_false (by omega)
      obtain ⟨i, hii⟩ : ∃ i, a.i.toNat = i := ⟨_, rfl⟩
      have hi : (i : Int) = a.i := by have := VA.out.i0; omega
      have HII := Lib.hid hii
      have HI := Lib.hid hi
      have hi16 : i ≤ 16 := by have := VA.out.i1; omega
      obtain ⟨bl, hbl⟩ : ∃ x, List.replicate N (List.replicate i nE) = x := ⟨_, rfl⟩
      have hBK := blank_any i a.o N W3 (by omega) (by omega)
      rw [hbl, hi, show ((N : Nat) : Int) = (n : Int) by omega] at hBK
      have HBK := Lib.hid hBK
      obtain ⟨F, hF⟩ : ∃ F, filB a 1 = F := ⟨_, rfl⟩
      have hFF : Hid (a.r ++ bl.drop n = F) := by show _ = _; rw [← hF]; rw [← hbl]; unfold filB; rw [if_neg (by rw [HCV.out]; simp), List.drop_of_length_le (by simp; omega)]
      have hbll : Hid (bl.length = N) := by show _ = _; rw [← hbl]; simp
      have hblr : Hid (∀ row ∈ bl, row.length = i) := fun row hr => by rw [← hbl] at hr; rw [List.eq_of_mem_replicate hr]; simp
      have hFl : Hid (F.length = N) := by show _ = _; rw [← hFF.out, List.length_append, List.length_drop, HN.out, hbll.out]; omega
      have hFr : Hid (∀ row ∈ F, row.length = i) := fun row hr => by
        rw [← hFF.out] at hr
        rcases List.mem_append.1 hr with hr | hr
        · have h1 := VA.out.len row hr; have h2 := HI.out; omega
        · exact hblr.out row (List.mem_of_mem_drop hr)
      obtain ⟨T, hT⟩ : ∃ T, filT a 1 out = T := ⟨_, rfl⟩
      have hTf : Hid (T = filR (tgtF 1 n) out F) := by show _ = _; rw [← hT, ← hF]; unfold filT; rw [HN.out]
      have hTl : Hid (T.length = N) := by show _ = _; rw [hTf.out, filR_len, hFl.out]
      have HT := Lib.hid hT
      have hfT : Hid (0 + T.length ≤ F.length) := by show _ ≤ _; rw [hTl.out, hFl.out]; omega
      clear hBK hbl hi hii hN hF hT
      go_wp2_with fail
      with_reducible refine HBK.out.mono ?_
      rintro e w4 ⟨p, gs, rfl, hgs, hWb, hb4⟩
      have hB0 := Bw.start (i := i) (o := a.o) hWb hb4
      have HGS := Lib.hid hgs
      have hz4 : w4.heap.size + 1 = (w4.alloc (.cells #[.int .i64 a.i, .int .i64 a.o, .slice (some ⟨p, 0, none⟩) N N] 24)).heap.size := by rw [World.size_alloc]
      obtain ⟨g8, hg8⟩ : ∃ g, w4.heap.size = g := ⟨_, rfl⟩
      rw [HI.out] at hB0
      obtain ⟨W5, hW5⟩ : ∃ W5, w4.alloc (.cells #[.int .i64 a.i, .int .i64 a.o, .slice (some ⟨p, 0, none⟩) N N] 24) = W5 := ⟨_, rfl⟩
      rw [hg8, hW5] at hB0
      have hB1 := Lib.hid hB0
      have HW5 := Lib.hid hW5
      have HG8 := Lib.hid hg8
      have h35 : W3.heap.size ≤ W5.heap.size := hB0.b1.size
      have hPU : Calls Try.prog 65 #[.slice (some ⟨p, 0, none⟩) N N, .agg #[.int .i64 a.i, .int .i64 a.o, .slice A n c], .int .i64 0] W5 _ :=
        put_any a VA.out i A n c 0 W3.heap.size p N bl gs W3 W5 HI.out.symm (HRA.out.below hJ3.out.bel) HN.out hB0.wb hgs hbll.out hN64 hB0.b1 (Nat.le_refl _) h35 hblr.out (by omega)
      rw [put_zero HN.out, hFF.out] at hPU
      have HPU := Lib.hid hPU
      clear hB0 hgs hWb hb4 hW5 hg8 hPU hz4 x0 x1 x2 c10
      obtain ⟨x0, x1, x2⟩ := (hJ3.out.below hB1.out.b1).ba.cells
      obtain ⟨z0, z1, z2⟩ := hB1.out.bx.cells
      go_upto_region 14 with fail
      try rw [HW5.out]
      try rw [HG8.out]
      go_wp2_with fail
      with_reducible refine HPU.out.mono ?_
      rintro e w6 ⟨rfl, hW6, hb6, hk6⟩
      have hB6 : Hid (Bw W3 g8 a.i a.o p N gs (putK F T 0 0) w6) := by show Bw _ _ _ _ _ _ _ _ _; rw [putK_zero]; exact hB1.out.put_ hW6 hb6 hk6
      clear hW6 hb6 hk6 x0 x1 x2 z0 z1 z2 HPU hB1 HBK
      obtain ⟨z0, z1, z2⟩ := hB6.out.bx.cells
      go_wp2
      clear z0 z1 z2
      go_loopw [77] (fun v wr => ∃ s : Nat, s ≤ N ∧ v = .int .i64 s ∧ Hid (Bw W3 g8 a.i a.o p N gs (putK F T 0 s) wr)) (fun v _ => N - (intOf v).toNat)
      case atStart => exact ⟨0, Nat.zero_le _, rfl, hB6⟩
      case round =>
        obtain ⟨s, hs, rfl, hB⟩ := hrel
        clear hB6
        obtain ⟨W7, rfl⟩ : ∃ W7, W7 = wr := ⟨wr, rfl⟩
        by_cases hsN : s < N
        · obtain ⟨gk, hgk⟩ : ∃ g, gs[s]? = some g := ⟨_, List.getElem?_eq_getElem (by rw [HGS.out]; exact hsN)⟩
          obtain ⟨old, hold⟩ : ∃ r, F[s]? = some r := ⟨_, List.getElem?_eq_getElem (by rw [hFl.out]; exact hsN)⟩
          have hol : Hid (old.length = i) := hFr.out old (List.mem_of_getElem? hold)
          obtain ⟨rowT, hrowT⟩ : ∃ r, (old.map fun x => if x.1 = -1 then (tgtF 1 n s, out) else x) = r := ⟨_, rfl⟩
          have hRT : Hid (∀ (j : Nat) x, old[j]? = some x → rowT[j]? = some (if x.1 = -1 then (tgtF 1 n s, out) else x)) := fun j x h => by rw [← hrowT, List.getElem?_map, h]; rfl
          have hrTl : Hid (rowT.length = i) := by show _ = _; rw [← hrowT, List.length_map]; exact hol.out
          have hTs : Hid (T[s]? = some rowT) := by show _ = _; rw [hTf.out, filR_at hold, hrowT]
          have hrl' : Hid (rowT.length = old.length) := by show _ = _; rw [hrTl.out, hol.out]
          have hcat : Hid ((putK F T 0 s)[s]? = some old) := by
            show _ = _
            have h := putK_at (f := 0) hfT.out (s := s) (by rw [hTl.out]; exact hsN)
            rw [Nat.zero_add] at h
            rw [h]
            exact hold
          have hP1 : Hid (Bw W3 g8 a.i a.o p N gs ((putK F T 0 s).set s (curK rowT old 0)) W7) := by
            show Bw _ _ _ _ _ _ _ _ _
            obtain ⟨h1, h2⟩ := List.getElem?_eq_some_iff.1 hcat.out
            rw [curK_zero, ← h2, List.set_getElem_self]
            exact hB.out
          have c0 := hB.out.wb.at_ hgk hcat.out (by rw [HGS.out, putK_len hfT.out (by rw [hTl.out]; omega), hFl.out]; exact Nat.le_refl _)
          rw [hol.out] at c0
          have hs1 : (s : Int) < N := by omega
          have HGK := Lib.hid hgk
          clear hB hgk hold hrowT
          go_wp2
          clear c0
          go_loopw [84] (fun v wr => ∃ j : Nat, j ≤ i ∧ v = .int .i64 j ∧ Hid (Bw W3 g8 a.i a.o p N gs ((putK F T 0 s).set s (curK rowT old j)) wr)) (fun v _ => i - (intOf v).toNat)
          case atStart => exact ⟨0, Nat.zero_le _, rfl, hP1⟩
          case round =>
            obtain ⟨j, hj, rfl, hB⟩ := hrel
            clear hP1
            by_cases hji : j < i
            · have hj1 : (j : Int) < i := by omega
              obtain ⟨⟨ex, ey⟩, hex⟩ : ∃ x, old[j]? = some x := ⟨_, List.getElem?_eq_getElem (by rw [hol.out]; exact hji)⟩
              obtain ⟨cur, hcur⟩ : ∃ cur, curK rowT old j = cur := ⟨_, rfl⟩
              have hcj : cur[j]? = some (ex, ey) := by rw [← hcur, curK_get hrl'.out (by rw [hrTl.out]; exact hj)]; exact hex
              have hcl : Hid (cur.length = i) := by show _ = _; rw [← hcur, curK_len hrl'.out (by rw [hrTl.out]; exact hj), hrTl.out]
              have hRj := hRT.out j _ hex
              have hra : Hid (((putK F T 0 s).set s cur)[s]? = some cur) := by
                show _ = _
                rw [List.getElem?_set_self (List.getElem?_eq_some_iff.1 hcat.out).1]
              rw [hcur] at hB
              obtain ⟨q0, q1⟩ := rowB_cells (hB.out.wb.row s gk cur HGK.out hra.out) hcj
              have hBE := hB.out.below ((Below.refl _ _).alloc (Nat.le_refl _) (.cells #[.int .i64 ex, .int .i64 ey] 27))
              by_cases hx : ex = -1
              · subst hx
                have hset : cur.set j ((n : Int), out) = curK rowT old (j + 1) := by
                  rw [← hcur]
                  refine curK_set hrl'.out ?_
                  rw [hRj, if_pos rfl]
                  rfl
                obtain ⟨⟨u0', u1', s0, s1⟩, sf⟩ := hBE.cells HGK.out hra.out hcl.out hji
                obtain ⟨v0, v1⟩ := rowB_cells (hB.out.wb.row s gk cur HGK.out hra.out) hcj
                have vf := blk_frz (hB.out.wb.row s gk cur HGK.out hra.out)
                have k10 : (wr.alloc (.cells #[.int .i64 (-1), .int .i64 ey] 27)).cell? ⟨g10, 0, none⟩ = some (.int .i64 n) := by
                  have h1 := (hBE.b1.block g10 (heap_lt hK3.out)).trans hK3.out
                  rw [cell_of_row _ _ _ _ _ _ h1]; rfl
                have hP := hBE.put (x := ((n : Int), out)) HGK.out hra.out (by rw [hcl.out]; exact hji)
                rw [List.set_set, hset] at hP
                have HP := Lib.hid hP
                have hgl := (hB.out.wb.own gk (List.mem_of_getElem? HGK.out)).2.2
                have hpl2 : p < wr.heap.size := heap_lt hB.out.wb.blk
                have HCL := Lib.hid (fill2_any (s : Int) (n : Int) g10 (wr.alloc (.cells #[.int .i64 (-1), .int .i64 ey] 27)) k10)
                clear hP hB hBE hcur hset hRj hcj hex
                go_wp2_with fail
                with_reducible refine HCL.out.mono ?_
                rintro e w9 ⟨rfl, rfl⟩
                go_wp2
                go_roundw
                case rel => exact ⟨j + 1, by omega, by go_num, by first | exact HP | (have h := HP.out; rw [World.setCell_alloc_past _ _ _ _ (by show gk < wr.heap.size; exact hgl), World.setCell_alloc_past _ _ _ _ (by show gk < (wr.setCell _ _).heap.size; simpa [World.setCell] using hgl)] at h; exact h)⟩
                case measure => simp [intOf]; omega
              · have hxb : (ex == -1) = false := by rw [beq_eq_false_iff_ne]; exact hx
                have hsk : curK rowT old (j + 1) = cur := by
                  rw [← hcur]
                  exact curK_skip (by rw [hRj, if_neg hx]) hex
                have hB2 : Hid (Bw W3 g8 a.i a.o p N gs ((putK F T 0 s).set s (curK rowT old (j + 1))) (wr.alloc (.cells #[.int .i64 ex, .int .i64 ey] 27))) := by show Bw _ _ _ _ _ _ _ _ _; rw [hsk]; exact hBE
                clear hB hBE hcur hsk hRj hcj hex
                go_wp2
                go_roundw
                case rel => exact ⟨j + 1, by omega, by go_num, hB2⟩
                case measure => simp [intOf]; omega
            · have hjn : j = i := by omega
              have hB' : Hid (Bw W3 g8 a.i a.o p N gs (putK F T 0 (s + 1)) wr) := by
                have h1 := hB.out
                have h2 : curK rowT old j = rowT := by
                  have h3 : j = rowT.length := by rw [hrTl.out]; exact hjn
                  rw [h3]
                  exact curK_all hrl'.out
                have h4 := putK_set hfT.out hTs.out
                rw [Nat.zero_add] at h4
                rw [h2, h4] at h1
                exact h1
              have HJN := Lib.hid hjn
              clear hB hjn
              go_wp2
              go_roundw
              case rel => exact ⟨s + 1, by omega, by go_num, hB'⟩
              case measure => simp [intOf]; omega
        · have hsn2 : s = N := by omega
          have hTT : Hid (putK F T 0 s = T) := by
            show _ = _
            unfold putK
            rw [List.take_zero, List.nil_append, List.take_of_length_le (by rw [hTl.out]; omega), List.drop_of_length_le (by rw [hFl.out]; omega), List.append_nil]
          rw [hTT.out] at hB
          have hZ := (hJ3.out.below hB.out.b1).bz
          obtain ⟨z0, z1, z2⟩ := hB.out.bx.cells
          obtain ⟨e0, e1, e2⟩ := hZ.cells
          obtain ⟨f0, f1, f2⟩ := hZ.frozen
          obtain ⟨r0, r1, r2⟩ := set3_reads hZ (.int .i64 a.i) (.int .i64 a.o) (.slice (some ⟨p, 0, none⟩) N N)
          have hwz := hJ3.out.bel.size
          have hbzl := heap_lt hJ3.out.bz
          have HFin : Hid (JeP w (fech a 1 out) a.i a.o (filT a 1 out) (.returned (.tuple #[.agg #[.int .i64 a.i, .int .i64 a.o, .slice (some ⟨p, 0, none⟩) N N], .int .i64 0])) (((W7.setCell ⟨w.heap.size + 1, 0, none⟩ (.int .i64 a.i)).setCell ⟨w.heap.size + 1, 1, none⟩ (.int .i64 a.o)).setCell ⟨w.heap.size + 1, 2, none⟩ (.slice (some ⟨p, 0, none⟩) N N))) := by
            refine Or.inr ⟨hoe.out, p, N, gs, rfl, by show _ = _; rw [HT.out]; exact hTl.out, HGS.out, ?_, below_set3' (below_next hJ3.out.bel hB.out.b1) (by omega) _ _ _⟩
            rw [HT.out]
            exact (hB.out.wb.far3 hbzl _ _ _).base (by omega)
          have HS2 := Lib.hid hsn2
          clear hB hZ hsn2
          go_wp2
          refine bodyPost_ret (v := .tuple #[.agg #[.int .i64 a.i, .int .i64 a.o, .slice (some ⟨p, 0, none⟩) N N], .int .i64 0]) (by simp [results, Try.f32, go_sem, r0, r1, r2]) rfl ?_
          rw [← HP0.out]
          exact HFin.out
    | false =>
      by_cases h64 : n = 64
      · have hoe : Hid (fech a 1 out = 3) := by show _ = _; unfold fech; rw [if_neg (by rw [HC.out]; simp), if_neg (by omega), if_neg (by have := H0.out; omega), if_neg (by have := H1.out; omega), if_pos ⟨rfl, HCV.out, by rw [HN.out]; exact h64⟩]
        have hd64 : decide ((64 : Int) < (n : Int) + 1) = true := decide_eq_true (by omega)
        obtain ⟨e0, e1, e2⟩ := hJ3.out.bz.cells
        obtain ⟨f0, f1, f2⟩ := hJ3.out.bz.frozen
        obtain ⟨r0, r1, r2⟩ := set3_reads hJ3.out.bz (.int .i64 0) (.int .i64 0) (.slice none 0 0)
        have hBZ := Lib.hid (hJ3.out.err (.int .i64 0) (.int .i64 0) (.slice none 0 0))
        have H64 := Lib.hid h64
        clear h64
        go_wp2
        refine bodyPost_ret (v := .tuple #[.agg #[.int .i64 0, .int .i64 0, .slice none 0 0], .int .i64 3]) (by simp [results, Try.f32, go_sem, r0, r1, r2]) rfl ?_
        rw [← HP0.out, hoe.out]
        exact Or.inl ⟨by simp, rfl, hBZ.out⟩
      · have hoe : Hid (fech a 1 out = 0) := by show _ = _; unfold fech; rw [if_neg (by rw [HC.out]; simp), if_neg (by omega), if_neg (by have := H0.out; omega), if_neg (by have := H1.out; omega), if_neg (by rintro ⟨_, _, h⟩; rw [HN.out] at h; exact h64 h)]
        obtain ⟨N, hN⟩ : ∃ N, n + 1 = N := ⟨_, rfl⟩
        have HNN := Lib.hid hN
        have hN64 : N ≤ 64 := by omega
        have hnN : n ≤ N := by omega
        have hd64 : decide ((64 : Int) < ((n : Int) + 1)) = false := decide_eq_false (by omega)
        obtain ⟨i, hii⟩ : ∃ i, a.i.toNat = i := ⟨_, rfl⟩
        have hi : (i : Int) = a.i := by have := VA.out.i0; omega
        have HII := Lib.hid hii
        have HI := Lib.hid hi
        have hi16 : i ≤ 16 := by have := VA.out.i1; omega
        obtain ⟨bl, hbl⟩ : ∃ x, List.replicate N (List.replicate i nE) = x := ⟨_, rfl⟩
        have hBK := blank_any i a.o N W3 (by omega) (by omega)
        rw [hbl, hi, show ((N : Nat) : Int) = ((n : Int) + 1) by omega] at hBK
        have HBK := Lib.hid hBK
        obtain ⟨F, hF⟩ : ∃ F, filB a 1 = F := ⟨_, rfl⟩
        have hFF : Hid (a.r ++ bl.drop n = F) := by show _ = _; rw [← hF]; rw [← hbl]; unfold filB; rw [if_pos ⟨rfl, HCV.out⟩, List.drop_replicate, show N - n = 1 by omega, HII.out]; rfl
        have hbll : Hid (bl.length = N) := by show _ = _; rw [← hbl]; simp
        have hblr : Hid (∀ row ∈ bl, row.length = i) := fun row hr => by rw [← hbl] at hr; rw [List.eq_of_mem_replicate hr]; simp
        have hFl : Hid (F.length = N) := by show _ = _; rw [← hFF.out, List.length_append, List.length_drop, HN.out, hbll.out]; omega
        have hFr : Hid (∀ row ∈ F, row.length = i) := fun row hr => by
          rw [← hFF.out] at hr
          rcases List.mem_append.1 hr with hr | hr
          · have h1 := VA.out.len row hr; have h2 := HI.out; omega
          · exact hblr.out row (List.mem_of_mem_drop hr)
        obtain ⟨T, hT⟩ : ∃ T, filT a 1 out = T := ⟨_, rfl⟩
        have hTf : Hid (T = filR (tgtF 1 n) out F) := by show _ = _; rw [← hT, ← hF]; unfold filT; rw [HN.out]
        have hTl : Hid (T.length = N) := by show _ = _; rw [hTf.out, filR_len, hFl.out]
        have HT := Lib.hid hT
        have hfT : Hid (0 + T.length ≤ F.length) := by show _ ≤ _; rw [hTl.out, hFl.out]; omega
        clear hBK hbl hi hii hN hF hT
        go_wp2_with fail
        with_reducible refine HBK.out.mono ?_
        rintro e w4 ⟨p, gs, rfl, hgs, hWb, hb4⟩
        have hB0 := Bw.start (i := i) (o := a.o) hWb hb4
        have HGS := Lib.hid hgs
        have hz4 : w4.heap.size + 1 = (w4.alloc (.cells #[.int .i64 a.i, .int .i64 a.o, .slice (some ⟨p, 0, none⟩) N N] 24)).heap.size := by rw [World.size_alloc]
        obtain ⟨g8, hg8⟩ : ∃ g, w4.heap.size = g := ⟨_, rfl⟩
        rw [HI.out] at hB0
        obtain ⟨W5, hW5⟩ : ∃ W5, w4.alloc (.cells #[.int .i64 a.i, .int .i64 a.o, .slice (some ⟨p, 0, none⟩) N N] 24) = W5 := ⟨_, rfl⟩
        rw [hg8, hW5] at hB0
        have hB1 := Lib.hid hB0
        have HW5 := Lib.hid hW5
        have HG8 := Lib.hid hg8
        have h35 : W3.heap.size ≤ W5.heap.size := hB0.b1.size
        have hPU : Calls Try.prog 65 #[.slice (some ⟨p, 0, none⟩) N N, .agg #[.int .i64 a.i, .int .i64 a.o, .slice A n c], .int .i64 0] W5 _ :=
          put_any a VA.out i A n c 0 W3.heap.size p N bl gs W3 W5 HI.out.symm (HRA.out.below hJ3.out.bel) HN.out hB0.wb hgs hbll.out hN64 hB0.b1 (Nat.le_refl _) h35 hblr.out (by omega)
        rw [put_zero HN.out, hFF.out] at hPU
        have HPU := Lib.hid hPU
        clear hB0 hgs hWb hb4 hW5 hg8 hPU hz4 x0 x1 x2 c10
        obtain ⟨x0, x1, x2⟩ := (hJ3.out.below hB1.out.b1).ba.cells
        obtain ⟨z0, z1, z2⟩ := hB1.out.bx.cells
        go_upto_region 14 with fail
        try rw [HW5.out]
        try rw [HG8.out]
        go_wp2_with fail
        with_reducible refine HPU.out.mono ?_
        rintro e w6 ⟨rfl, hW6, hb6, hk6⟩
        have hB6 : Hid (Bw W3 g8 a.i a.o p N gs (putK F T 0 0) w6) := by show Bw _ _ _ _ _ _ _ _ _; rw [putK_zero]; exact hB1.out.put_ hW6 hb6 hk6
        clear hW6 hb6 hk6 x0 x1 x2 z0 z1 z2 HPU hB1 HBK
        obtain ⟨z0, z1, z2⟩ := hB6.out.bx.cells
        go_wp2
        clear z0 z1 z2
        go_loopw [77] (fun v wr => ∃ s : Nat, s ≤ N ∧ v = .int .i64 s ∧ Hid (Bw W3 g8 a.i a.o p N gs (putK F T 0 s) wr)) (fun v _ => N - (intOf v).toNat)
        case atStart => exact ⟨0, Nat.zero_le _, rfl, hB6⟩
        case round =>
          obtain ⟨s, hs, rfl, hB⟩ := hrel
          clear hB6
          obtain ⟨W7, rfl⟩ : ∃ W7, W7 = wr := ⟨wr, rfl⟩
          by_cases hsN : s < N
          · obtain ⟨gk, hgk⟩ : ∃ g, gs[s]? = some g := ⟨_, List.getElem?_eq_getElem (by rw [HGS.out]; exact hsN)⟩
            obtain ⟨old, hold⟩ : ∃ r, F[s]? = some r := ⟨_, List.getElem?_eq_getElem (by rw [hFl.out]; exact hsN)⟩
            have hol : Hid (old.length = i) := hFr.out old (List.mem_of_getElem? hold)
            obtain ⟨rowT, hrowT⟩ : ∃ r, (old.map fun x => if x.1 = -1 then (tgtF 1 n s, out) else x) = r := ⟨_, rfl⟩
            have hRT : Hid (∀ (j : Nat) x, old[j]? = some x → rowT[j]? = some (if x.1 = -1 then (tgtF 1 n s, out) else x)) := fun j x h => by rw [← hrowT, List.getElem?_map, h]; rfl
            have hrTl : Hid (rowT.length = i) := by show _ = _; rw [← hrowT, List.length_map]; exact hol.out
            have hTs : Hid (T[s]? = some rowT) := by show _ = _; rw [hTf.out, filR_at hold, hrowT]
            have hrl' : Hid (rowT.length = old.length) := by show _ = _; rw [hrTl.out, hol.out]
            have hcat : Hid ((putK F T 0 s)[s]? = some old) := by
              show _ = _
              have h := putK_at (f := 0) hfT.out (s := s) (by rw [hTl.out]; exact hsN)
              rw [Nat.zero_add] at h
              rw [h]
              exact hold
            have hP1 : Hid (Bw W3 g8 a.i a.o p N gs ((putK F T 0 s).set s (curK rowT old 0)) W7) := by
              show Bw _ _ _ _ _ _ _ _ _
              obtain ⟨h1, h2⟩ := List.getElem?_eq_some_iff.1 hcat.out
              rw [curK_zero, ← h2, List.set_getElem_self]
              exact hB.out
            have c0 := hB.out.wb.at_ hgk hcat.out (by rw [HGS.out, putK_len hfT.out (by rw [hTl.out]; omega), hFl.out]; exact Nat.le_refl _)
            rw [hol.out] at c0
            have hs1 : (s : Int) < N := by omega
            have HGK := Lib.hid hgk
            clear hB hgk hold hrowT
            go_wp2
            clear c0
            go_loopw [84] (fun v wr => ∃ j : Nat, j ≤ i ∧ v = .int .i64 j ∧ Hid (Bw W3 g8 a.i a.o p N gs ((putK F T 0 s).set s (curK rowT old j)) wr)) (fun v _ => i - (intOf v).toNat)
            case atStart => exact ⟨0, Nat.zero_le _, rfl, hP1⟩
            case round =>
              obtain ⟨j, hj, rfl, hB⟩ := hrel
              clear hP1
              by_cases hji : j < i
              · have hj1 : (j : Int) < i := by omega
                obtain ⟨⟨ex, ey⟩, hex⟩ : ∃ x, old[j]? = some x := ⟨_, List.getElem?_eq_getElem (by rw [hol.out]; exact hji)⟩
                obtain ⟨cur, hcur⟩ : ∃ cur, curK rowT old j = cur := ⟨_, rfl⟩
                have hcj : cur[j]? = some (ex, ey) := by rw [← hcur, curK_get hrl'.out (by rw [hrTl.out]; exact hj)]; exact hex
                have hcl : Hid (cur.length = i) := by show _ = _; rw [← hcur, curK_len hrl'.out (by rw [hrTl.out]; exact hj), hrTl.out]
                have hRj := hRT.out j _ hex
                have hra : Hid (((putK F T 0 s).set s cur)[s]? = some cur) := by
                  show _ = _
                  rw [List.getElem?_set_self (List.getElem?_eq_some_iff.1 hcat.out).1]
                rw [hcur] at hB
                obtain ⟨q0, q1⟩ := rowB_cells (hB.out.wb.row s gk cur HGK.out hra.out) hcj
                have hBE := hB.out.below ((Below.refl _ _).alloc (Nat.le_refl _) (.cells #[.int .i64 ex, .int .i64 ey] 27))
                by_cases hx : ex = -1
                · subst hx
                  have hset : cur.set j ((n : Int), out) = curK rowT old (j + 1) := by
                    rw [← hcur]
                    refine curK_set hrl'.out ?_
                    rw [hRj, if_pos rfl]
                    rfl
                  obtain ⟨⟨u0', u1', s0, s1⟩, sf⟩ := hBE.cells HGK.out hra.out hcl.out hji
                  obtain ⟨v0, v1⟩ := rowB_cells (hB.out.wb.row s gk cur HGK.out hra.out) hcj
                  have vf := blk_frz (hB.out.wb.row s gk cur HGK.out hra.out)
                  have k10 : (wr.alloc (.cells #[.int .i64 (-1), .int .i64 ey] 27)).cell? ⟨g10, 0, none⟩ = some (.int .i64 n) := by
                    have h1 := (hBE.b1.block g10 (heap_lt hK3.out)).trans hK3.out
                    rw [cell_of_row _ _ _ _ _ _ h1]; rfl
                  have hP := hBE.put (x := ((n : Int), out)) HGK.out hra.out (by rw [hcl.out]; exact hji)
                  rw [List.set_set, hset] at hP
                  have HP := Lib.hid hP
                  have hgl := (hB.out.wb.own gk (List.mem_of_getElem? HGK.out)).2.2
                  have hpl2 : p < wr.heap.size := heap_lt hB.out.wb.blk
                  have HCL := Lib.hid (fill2_any (s : Int) (n : Int) g10 (wr.alloc (.cells #[.int .i64 (-1), .int .i64 ey] 27)) k10)
                  clear hP hB hBE hcur hset hRj hcj hex
                  go_wp2_with fail
                  with_reducible refine HCL.out.mono ?_
                  rintro e w9 ⟨rfl, rfl⟩
                  go_wp2
                  go_roundw
                  case rel => exact ⟨j + 1, by omega, by go_num, by first | exact HP | (have h := HP.out; rw [World.setCell_alloc_past _ _ _ _ (by show gk < wr.heap.size; exact hgl), World.setCell_alloc_past _ _ _ _ (by show gk < (wr.setCell _ _).heap.size; simpa [World.setCell] using hgl)] at h; exact h)⟩
                  case measure => simp [intOf]; omega
                · have hxb : (ex == -1) = false := by rw [beq_eq_false_iff_ne]; exact hx
                  have hsk : curK rowT old (j + 1) = cur := by
                    rw [← hcur]
                    exact curK_skip (by rw [hRj, if_neg hx]) hex
                  have hB2 : Hid (Bw W3 g8 a.i a.o p N gs ((putK F T 0 s).set s (curK rowT old (j + 1))) (wr.alloc (.cells #[.int .i64 ex, .int .i64 ey] 27))) := by show Bw _ _ _ _ _ _ _ _ _; rw [hsk]; exact hBE
                  clear hB hBE hcur hsk hRj hcj hex
                  go_wp2
                  go_roundw
                  case rel => exact ⟨j + 1, by omega, by go_num, hB2⟩
                  case measure => simp [intOf]; omega
              · have hjn : j = i := by omega
                have hB' : Hid (Bw W3 g8 a.i a.o p N gs (putK F T 0 (s + 1)) wr) := by
                  have h1 := hB.out
                  have h2 : curK rowT old j = rowT := by
                    have h3 : j = rowT.length := by rw [hrTl.out]; exact hjn
                    rw [h3]
                    exact curK_all hrl'.out
                  have h4 := putK_set hfT.out hTs.out
                  rw [Nat.zero_add] at h4
                  rw [h2, h4] at h1
                  exact h1
                have HJN := Lib.hid hjn
                clear hB hjn
                go_wp2
                go_roundw
                case rel => exact ⟨s + 1, by omega, by go_num, hB'⟩
                case measure => simp [intOf]; omega
          · have hsn2 : s = N := by omega
            have hTT : Hid (putK F T 0 s = T) := by
              show _ = _
              unfold putK
              rw [List.take_zero, List.nil_append, List.take_of_length_le (by rw [hTl.out]; omega), List.drop_of_length_le (by rw [hFl.out]; omega), List.append_nil]
            rw [hTT.out] at hB
            have hZ := (hJ3.out.below hB.out.b1).bz
            obtain ⟨z0, z1, z2⟩ := hB.out.bx.cells
            obtain ⟨e0, e1, e2⟩ := hZ.cells
            obtain ⟨f0, f1, f2⟩ := hZ.frozen
            obtain ⟨r0, r1, r2⟩ := set3_reads hZ (.int .i64 a.i) (.int .i64 a.o) (.slice (some ⟨p, 0, none⟩) N N)
            have hwz := hJ3.out.bel.size
            have hbzl := heap_lt hJ3.out.bz
            have HFin : Hid (JeP w (fech a 1 out) a.i a.o (filT a 1 out) (.returned (.tuple #[.agg #[.int .i64 a.i, .int .i64 a.o, .slice (some ⟨p, 0, none⟩) N N], .int .i64 0])) (((W7.setCell ⟨w.heap.size + 1, 0, none⟩ (.int .i64 a.i)).setCell ⟨w.heap.size + 1, 1, none⟩ (.int .i64 a.o)).setCell ⟨w.heap.size + 1, 2, none⟩ (.slice (some ⟨p, 0, none⟩) N N))) := by
              refine Or.inr ⟨hoe.out, p, N, gs, rfl, by show _ = _; rw [HT.out]; exact hTl.out, HGS.out, ?_, below_set3' (below_next hJ3.out.bel hB.out.b1) (by omega) _ _ _⟩
              rw [HT.out]
              exact (hB.out.wb.far3 hbzl _ _ _).base (by omega)
            have HS2 := Lib.hid hsn2
            clear hB hZ hsn2
            go_wp2
            refine bodyPost_ret (v := .tuple #[.agg #[.int .i64 a.i, .int .i64 a.o, .slice (some ⟨p, 0, none⟩) N N], .int .i64 0]) (by simp [results, Try.f32, go_sem, r0, r1, r2]) rfl ?_
            rw [← HP0.out]
            exact HFin.out

  · obtain ⟨ce, hce⟩ : ∃ ce, Mc.chk a = ce := ⟨_, rfl⟩
    have hec : Hid (fech a 1 out = ce ∧ ce ≠ 0) := by
      refine ⟨?_, by rw [← hce]; exact hc⟩
      unfold fech
      rw [if_pos hc, hce]
    rw [hce] at hc ⊢
    have hne : (ce == 0) = false := by rw [beq_eq_false_iff_ne]; exact hc
    obtain ⟨r0, r1, r2⟩ := hRZ
    clear hce hc
    go_wp2
    refine bodyPost_ret (v := .tuple #[.agg #[.int .i64 0, .int .i64 0, .slice none 0 0], .int .i64 ce]) (by simp [results, Try.f32, go_sem, r0, r1, r2]) rfl ?_
    rw [← HP0.out, hec.out.1]
    exact Or.inl ⟨hec.out.2, rfl, hBZ.out⟩
end Go.Proofs.Ytgafpmgdpigliaa
