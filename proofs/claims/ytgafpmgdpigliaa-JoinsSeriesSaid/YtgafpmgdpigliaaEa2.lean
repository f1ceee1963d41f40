/-
  Contracts: equals.check, arrival.word. No statement is proved here.
-/
import Derived.Test.YtgafpmgdpigliaaEa1
import Derived.Test.YtgafpmgdpigliaaSwZ
import Derived.Test.YtgafpmgdpigliaaRgZ
namespace Go.Proofs.Ytgafpmgdpigliaa
open Go.RowKit
open Mc (Ed Ma Wv)

/-- From round j on x is 0. -/
def Zk (j k : Nat) (x : Int) : Prop := j ≤ k → x = 0
/-- The error of two machines. -/
def ech (a b : Ma) : Int := if Mc.chk a ≠ 0 then Mc.chk a else if Mc.chk b ≠ 0 then Mc.chk b else if a.i ≠ b.i then 5 else 0
theorem ech_zero {a b : Ma} (va : Mc.Val a) (vb : Mc.Val b) (hi : a.i = b.i) : ech a b = 0 := by
  unfold ech
  rw [if_neg (by rw [Mc.chk_of va]; simp), if_neg (by rw [Mc.chk_of vb]; simp), if_neg (by simp [hi])]
theorem ech_ok {a b : Ma} (h : ech a b = 0) : Mc.Val a ∧ Mc.Val b ∧ a.i = b.i := by
  unfold ech at h
  split at h
  · contradiction
  · split at h
    · contradiction
    · split at h
      · cases h
      · rename_i h1 h2 h3
        exact ⟨Mc.val_of (by simpa using h1), Mc.val_of (by simpa using h2), by simpa using h3⟩
set_option maxRecDepth 100000 in
set_option maxHeartbeats 2000000 in
theorem echeck_any (a b : Ma) (A B : Option Addr) (n c n2 c2 : Nat) (w : World) (hra : RdR w A a.r) (hn : a.r.length = n) (hnb : n ≤ 1000000) (hrl : ∀ row ∈ a.r, row.length ≤ 1000000) (hrb : RdR w B b.r) (hn2 : b.r.length = n2) (hnb2 : n2 ≤ 1000000) (hrl2 : ∀ row ∈ b.r, row.length ≤ 1000000) :
    Calls Try.prog 38 #[.agg #[.int .i64 a.i, .int .i64 a.o, .slice A n c], .agg #[.int .i64 b.i, .int .i64 b.o, .slice B n2 c2]] w fun e w' => e = .returned (.int .i64 (ech a b)) ∧ Below w.heap.size w w' := by
  have CA : Hid (∀ wr, Below w.heap.size w wr → Calls Try.prog 73 #[.agg #[.int .i64 a.i, .int .i64 a.o, .slice A n c]] wr fun e w' => e = .returned (.int .i64 (Mc.chk a)) ∧ Below wr.heap.size wr w') := fun wr h => pcheck_any a.i a.o a.r A n c wr (hra.below h) hn hnb hrl
  have CB : Hid (∀ wr, Below w.heap.size w wr → Calls Try.prog 73 #[.agg #[.int .i64 b.i, .int .i64 b.o, .slice B n2 c2]] wr fun e w' => e = .returned (.int .i64 (Mc.chk b)) ∧ Below wr.heap.size wr w') := fun wr h => pcheck_any b.i b.o b.r B n2 c2 wr (hrb.below h) hn2 hnb2 hrl2
  obtain ⟨ai, hai⟩ : ∃ x, a.i = x := ⟨_, rfl⟩
  obtain ⟨ao, hao⟩ : ∃ x, a.o = x := ⟨_, rfl⟩
  obtain ⟨bi, hbi⟩ : ∃ x, b.i = x := ⟨_, rfl⟩
  obtain ⟨bo, hbo⟩ : ∃ x, b.o = x := ⟨_, rfl⟩
  have hE : Hid (ech a b = if Mc.chk a ≠ 0 then Mc.chk a else if Mc.chk b ≠ 0 then Mc.chk b else if ai ≠ bi then 5 else 0) := by show _ = _; unfold ech; rw [hai, hbi]
  rw [hai, hao] at CA
  rw [hbi, hbo] at CB
  rw [hai, hao, hbi, hbo, hE.out]
  obtain ⟨ca, hca⟩ : ∃ x, Mc.chk a = x := ⟨_, rfl⟩
  obtain ⟨cb, hcb⟩ : ∃ x, Mc.chk b = x := ⟨_, rfl⟩
  rw [hca] at CA ⊢
  rw [hcb] at CB ⊢
  obtain ⟨R, hR⟩ : ∃ R, (if ca ≠ 0 then ca else if cb ≠ 0 then cb else if ai ≠ bi then 5 else 0) = R := ⟨_, rfl⟩
  rw [hR]
  have HR := Lib.hid hR
  clear hR hra hrb hrl hrl2 hai hao hbi hbo hE hca hcb hn hn2 hnb hnb2 a b
  have hI0 : ∀ w, (Instr.index 25 (.agg #[.int .i64 ai, .int .i64 ao, .slice A n c, .int .i64 bi, .int .i64 bo, .slice B n2 c2]) (.int .i64 0)).run Try.prog w = .ok (.agg #[.int .i64 ai, .int .i64 ao, .slice A n c]) w := fun w => by kernel_rfl
  have hI1 : ∀ w, (Instr.index 25 (.agg #[.int .i64 ai, .int .i64 ao, .slice A n c, .int .i64 bi, .int .i64 bo, .slice B n2 c2]) (.int .i64 1)).run Try.prog w = .ok (.agg #[.int .i64 bi, .int .i64 bo, .slice B n2 c2]) w := fun w => by kernel_rfl
  have EB : Below w.heap.size w (boxM (boxM w ai ao A n c) bi bo B n2 c2) := ((Below.refl _ _).alloc (Nat.le_refl _) _).alloc (by simp) _
  have HB := Lib.hid EB
  have HMA : Hid (BxM (boxM (boxM w ai ao A n c) bi bo B n2 c2) w.heap.size ai ao A n c) := (BxM.new w ai ao A n c).mvB ((Below.refl _ _).alloc (Nat.le_refl _) _)
  have HMB : Hid (BxM (boxM (boxM w ai ao A n c) bi bo B n2 c2) (w.heap.size + 1) bi bo B n2 c2) := BxM.newE (by simp [boxM]) bi bo B n2 c2
  clear EB
  go_enter Try.func38, Try.ntmps38
  go_wp2_with fail
  go_loopw [11] (fun z wr => ∃ k : Nat, k ≤ 2 ∧ z = .int .i64 k ∧ Hid (Zk 1 k ca) ∧ Hid (Zk 2 k cb) ∧ Hid (BxM wr w.heap.size ai ao A n c) ∧ Hid (BxM wr (w.heap.size + 1) bi bo B n2 c2) ∧ Hid (Below w.heap.size w wr)) (fun z _ => 2 - (intOf z).toNat)
  case atStart => exact ⟨0, by omega, rfl, fun h => by omega, fun h => by omega, HMA, HMB, HB⟩
  case round =>
    clear HMA HMB HB
    obtain ⟨k, hk, rfl, hA, hB, hMA, hMB, hbr⟩ := hrel
    by_cases h0 : k = 0
    · subst h0
      go_wp2_with fail
      have hb1 := below_next hbr.out ((Below.refl _ _).alloc (Nat.le_refl _) (.cells #[.int .i64 ai, .int .i64 ao, .slice A n c] 24))
      have hM1 := hMA.out.mvB ((Below.refl _ _).alloc (Nat.le_refl _) (.cells #[.int .i64 ai, .int .i64 ao, .slice A n c] 24))
      have hM2 := hMB.out.mvB ((Below.refl _ _).alloc (Nat.le_refl _) (.cells #[.int .i64 ai, .int .i64 ao, .slice A n c] 24))
      refine (CA.out _ hb1).mono ?_
      rintro e w1 ⟨rfl, hb2⟩
      have hbF := Lib.hid (below_next hb1 hb2)
      have HM1 := Lib.hid (hM1.mvB hb2)
      have HM2 := Lib.hid (hM2.mvB hb2)
      clear hb1 hM1 hM2 hb2 hMA hMB hbr
      by_cases hc : ca = 0
      · subst hc
        go_wp2
        go_roundw
        case rel => exact ⟨1, by omega, by go_num, (fun _ => rfl), (fun h => by omega), HM1, HM2, hbF⟩
        case measure => simp [intOf]
      · have hcb' : (ca == 0) = false := by rw [beq_eq_false_iff_ne]; exact hc
        obtain rfl : R = ca := by rw [← HR.out, if_pos hc]
        go_wp2
        go_ret
        exact ⟨rfl, hbF.out⟩
    · by_cases h1 : k = 1
      · subst h1
        have hca0 := hA.out (by omega)
        subst hca0
        go_wp2_with fail
        have hb1 := below_next hbr.out ((Below.refl _ _).alloc (Nat.le_refl _) (.cells #[.int .i64 bi, .int .i64 bo, .slice B n2 c2] 24))
        have hM1 := hMA.out.mvB ((Below.refl _ _).alloc (Nat.le_refl _) (.cells #[.int .i64 bi, .int .i64 bo, .slice B n2 c2] 24))
        have hM2 := hMB.out.mvB ((Below.refl _ _).alloc (Nat.le_refl _) (.cells #[.int .i64 bi, .int .i64 bo, .slice B n2 c2] 24))
        refine (CB.out _ hb1).mono ?_
        rintro e w1 ⟨rfl, hb2⟩
        have hbF := Lib.hid (below_next hb1 hb2)
        have HM1 := Lib.hid (hM1.mvB hb2)
        have HM2 := Lib.hid (hM2.mvB hb2)
        clear hb1 hM1 hM2 hb2 hMA hMB hbr
        by_cases hc : cb = 0
        · subst hc
          go_wp2
          go_roundw
          case rel => exact ⟨2, by omega, by go_num, (fun _ => rfl), (fun _ => rfl), HM1, HM2, hbF⟩
          case measure => simp [intOf]
        · have hcb' : (cb == 0) = false := by rw [beq_eq_false_iff_ne]; exact hc
          obtain rfl : R = cb := by rw [← HR.out, if_neg (by simp), if_pos hc]
          go_wp2
          go_ret
          exact ⟨rfl, hbF.out⟩
      · obtain rfl : k = 2 := by omega
        have hca0 := hA.out (by omega)
        have hcb0 := hB.out (by omega)
        subst hca0 hcb0
        obtain ⟨x0, _, _⟩ := BxM.cells hMA.out
        obtain ⟨y0, _, _⟩ := BxM.cells hMB.out
        by_cases he : ai = bi
        · subst he
          obtain rfl : R = 0 := by rw [← HR.out]; simp
          go_wp2
          go_ret
          exact ⟨rfl, hbr.out⟩
        · have he' : (ai == bi) = false := by rw [beq_eq_false_iff_ne]; exact he
          obtain rfl : R = 5 := by rw [← HR.out]; simp [he]
          go_wp2
          go_ret
          exact ⟨rfl, hbr.out⟩

/-- The length that a pointer's pair tells. -/
def lenAt (w : World) (v : Value) : Nat := match v with
  | .pointer (some a) => (match w.cell? ⟨a.block, 4, none⟩ with
    | some (.int _ l) => l.toNat
    | _ => 0)
  | _ => 0
theorem lenAt_eq {w : World} {g l : Nat} (h : w.cell? ⟨g, 4, none⟩ = some (.int .i64 l)) : lenAt w (.pointer (some ⟨g, 0, none⟩)) = l := by
  unfold lenAt
  simp [h]
theorem ArR.cells {B : Nat → Prop} {w : World} : ∀ {r : List Int} {g : Nat}, ArR B w r g → ∃ p i, w.cell? ⟨g, 2, none⟩ = some (.pointer p) ∧ w.cell? ⟨g, 3, none⟩ = some (.int .i64 i) ∧ w.cell? ⟨g, 4, none⟩ = some (.int .i64 (r.length : Nat)) ∧ B g ∧ g < w.heap.size ∧
    ((r = [] ∧ p = none) ∨ ∃ c r' g', r = c :: r' ∧ p = some ⟨g', 0, none⟩ ∧ i = c ∧ ArR B w r' g')
  | [], g, ⟨hb, s, t, i, h⟩ => by
    obtain ⟨_, _, h2, h3, h4⟩ := h.cells
    exact ⟨none, i, h2, h3, h4, hb, h.lt, Or.inl ⟨rfl, rfl⟩⟩
  | c :: r, g, ⟨hb, s, t, g', h, hr⟩ => by
    obtain ⟨_, _, h2, h3, h4⟩ := h.cells
    exact ⟨_, c, h2, h3, by simpa using h4, hb, h.lt, Or.inr ⟨c, r, g', rfl, rfl, rfl, hr⟩⟩
theorem ArR.set_ {w : World} {h k : Nat} {v : Value} {r : List Int} {g : Nat} (ha : ArR (fun b => b ≠ h) w r g) : ArR (fun b => b ≠ h) (w.setCell ⟨h, k, none⟩ v) r g :=
  ArR.mono (fun _ h => h) (fun b _ hb ho => (Below.heap_setCell w ⟨h, k, none⟩ v b hb).trans ho) r g ha
theorem suf_set (n : Nat) (c : Int) (suf : List Int) : (List.replicate (n + 1) 0 ++ suf).set n c = List.replicate n 0 ++ c :: suf := by
  rw [List.replicate_succ', List.append_assoc, List.set_append_right _ _ (by simp)]
  simp
set_option maxRecDepth 100000 in
set_option maxHeartbeats 2000000 in
theorem eword_any (w : World) (g nb : Nat) (x : Wv) (c : Int) (C : Option Addr) (hx : ArP (fun b => b < w.heap.size) w g nb x) (hc : Rd w C [c]) (hl : x.2.length ≤ 4096) :
    Calls Try.prog 40 #[.pointer (some ⟨g, 0, none⟩), .slice C 1 1] w fun e w' => ∃ h, e = .returned (.slice (some ⟨h, 0, none⟩) (x.2.length + 1) (x.2.length + 1)) ∧ w.heap.size ≤ h ∧ Blk w' h (x.2 ++ [c]) ∧ Below w.heap.size w w' := by
  obtain ⟨hr, _⟩ := hx
  obtain ⟨rv, hrv⟩ : ∃ r, x.2.reverse = r := ⟨_, rfl⟩
  have HX2 : Hid (x.2 = rv.reverse) := by show _ = _; rw [← hrv, List.reverse_reverse]
  obtain ⟨n, hn⟩ : ∃ n, x.2.length = n := ⟨_, rfl⟩
  have HN : Hid (rv.length = n) := by show _ = _; rw [← hrv, List.length_reverse, hn]
  rw [hrv] at hr
  rw [hn, HX2.out]
  rw [hn] at hl
  clear hrv hn HX2
  obtain ⟨p, i, c2, c3, c4, hg, hgl, _⟩ := hr.cells
  rw [HN.out] at c4
  go_enter Try.func40, Try.ntmps40
  have hw1 : IntKind.i64.wrap ((n : Int) + 1) = ((n + 1 : Nat) : Int) := by rw [IntWalk.i64_in _ (by omega)]; omega
  go_wp2_with (first
    | (at_make; refine wpList_make_ints _ rfl _ _ rfl _ (n + 1) rfl rfl rfl (by omega) ?_)
    | fail)
  intro w1 hB1 hb1
  obtain ⟨h, hh⟩ : ∃ h, w.heap.size = h := ⟨_, rfl⟩
  have h4 : w1.cell? ⟨g, 4, none⟩ = some (.int .i64 n) := (hb1.cell (p := ⟨g, 4, none⟩) hgl).trans c4
  have hr1 : Hid (ArR (fun b => b ≠ h) w1 rv g) := ArR.mono (fun b hb => by omega) (fun b _ hb ho => (hb1.block b hb).trans ho) rv g hr
  have hc1 := hc.below hb1
  rw [hh] at hB1 hb1 ⊢
  have hsl : (n : Int) ≤ ((n + 1 : Nat) : Int) := by omega
  have hsl0 : (0 : Int) ≤ (n : Int) := by omega
  have hsb : n + 1 - n = 1 := by omega
  have hr0 := Lib.hid hr
  clear hr c2 c3 c4 hg hgl
  go_wp2_with (first
    | (with_reducible refine wpList_copy_part _ rfl (.tmp 20) (.tmp 21) rfl (some ⟨h, n, none⟩) C 1 1 n h _ 1 _ [c] rfl rfl hB1.out (by simp) (Nat.le_refl _) (fun _ => rfl) hc1 rfl h w hb1 (Nat.le_refl _) ?_)
    | fail)
  intro w2 hB2 hb2
  have HB2 := Lib.hid hb2
  have hr2 : Hid (ArR (fun b => b ≠ h) w2 rv g) := by
    refine ArR.mono (B := fun b => b < h) (fun b hb => by omega) (fun b _ hb ho => ?_) rv g (ArR.mono (fun b hb => by omega) (fun b _ hb ho => ho) rv g hr0.out)
    exact (hb2.block b hb).trans ho
  clear hr1 hc1 h4 hb1 hB1 hsl hsl0 hsb hw1
  go_wp2_with fail
  go_loopw [6] (fun v wr => ∃ (r : List Int) (gn : Nat) (suf : List Int), v = .pointer (some ⟨gn, 0, none⟩) ∧ r.length ≤ n ∧ Hid (r.reverse ++ suf = rv.reverse ++ [c]) ∧ Hid (ArR (fun b => b ≠ h) wr r gn) ∧ Hid (Blk wr h (List.replicate r.length 0 ++ suf)) ∧ Hid (Below h w wr)) (fun v wr => lenAt wr v)
  case atStart => exact ⟨rv, g, [c], rfl, by rw [HN.out]; exact Nat.le_refl _, rfl, hr2, by rw [HN.out]; exact hB2, HB2⟩
  case round =>
    clear hr2 hB2 HB2
    obtain ⟨r, gn, suf, rfl, hrl, hsuf, hA, hB, hbr⟩ := hrel
    obtain ⟨p, i, c2, c3, c4, hne, hlt, hcase⟩ := hA.out.cells
    rcases hcase with ⟨rfl, rfl⟩ | ⟨c', r', g', rfl, rfl, rfl, hA'⟩
    · have hsu : suf = rv.reverse ++ [c] := by have := hsuf.out; simpa using this
      subst hsu
      go_wp2
      go_ret
      exact ⟨h, rfl, by omega, (by have := hB.out; simpa using this), (by rw [hh]; exact hbr.out)⟩
    · obtain ⟨m, hm⟩ : ∃ m, r'.length = m := ⟨_, rfl⟩
      have HM := Lib.hid hm
      have hB' : Blk wr h (List.replicate (m + 1) 0 ++ suf) := by have := hB.out; rw [List.length_cons, hm] at this; exact this
      rw [List.length_cons, hm] at c4
      have hmn : m + 1 ≤ n := by have : (i :: r').length ≤ n := hrl; rw [List.length_cons, hm] at this; exact this
      have hcast : (((m + 1 : Nat)) : Int) = (m : Int) + 1 := by omega
      rw [hcast] at c4
      have hA2 := Lib.hid hA'
      have hmeas : Hid (lenAt wr (.pointer (some ⟨gn, 0, none⟩)) = m + 1) := lenAt_eq (l := m + 1) (by rw [hcast]; exact c4)
      obtain ⟨q0, q1⟩ := hB'.at_ (k := m) (by simp; omega)
      have hwm : IntKind.i64.wrap ((m : Int) + 1 - 1) = m := by rw [IntWalk.i64_in _ (by omega)]; omega
      have hi0 : (0 : Int) ≤ (m : Int) := by omega
      have hi1 : (m : Int) < ((n + 1 : Nat) : Int) := by omega
      have hi2 : (m : Int) < (n : Int) + 1 := by omega
      have hwm2 : IntKind.i64.wrap (m : Int) = m := IntWalk.i64_in _ (by omega)
      have f2 : (wr.setCell ⟨h, m, none⟩ (.int .i64 i)).cell? ⟨gn, 2, none⟩ = some (.pointer (some ⟨g', 0, none⟩)) := by rw [World.cell?_setCell_other _ _ _ _ (by intro e; injection e with e; exact hne e.symm)]; exact c2
      have f3 : (wr.setCell ⟨h, m, none⟩ (.int .i64 i)).cell? ⟨gn, 3, none⟩ = some (.int .i64 i) := by rw [World.cell?_setCell_other _ _ _ _ (by intro e; injection e with e; exact hne e.symm)]; exact c3
      have f4 : (wr.setCell ⟨h, m, none⟩ (.int .i64 i)).cell? ⟨gn, 4, none⟩ = some (.int .i64 ((m : Int) + 1)) := by rw [World.cell?_setCell_other _ _ _ _ (by intro e; injection e with e; exact hne e.symm)]; exact c4
      clear hB hcast hm
      go_wp2_with fail
      go_region_held3 (fun w' => w'.cell? ⟨gn, 3, none⟩ = some (.int .i64 i) ∧ w'.cell? ⟨gn, 4, none⟩ = some (.int .i64 ((m : Int) + 1))) (first | exact ⟨c3, c4⟩ | exact ⟨f3, f4⟩ | go_keep) (fail)
      have hB2 : Blk (wr.setCell ⟨h, m, none⟩ (.int .i64 i)) h (List.replicate m 0 ++ i :: suf) := by
        have := hB'.set_ m i
        rwa [suf_set] at this
      have hA3 : ArR (fun b => b ≠ h) (wr.setCell ⟨h, m, none⟩ (.int .i64 i)) r' g' := hA2.out.set_
      have hb3 : Below h w ((wr.setCell ⟨h, m, none⟩ (.int .i64 i)).drew) := below_drewN' (hbr.out.setCell (Nat.le_refl _) _) 1
      obtain ⟨W, hW⟩ : ∃ W, (wr.setCell ⟨h, m, none⟩ (.int .i64 i)).drew = W := ⟨_, rfl⟩
      have f2W : W.cell? ⟨gn, 2, none⟩ = some (.pointer (some ⟨g', 0, none⟩)) := by rw [← hW]; exact f2
      have HB2 : Hid (Blk W h (List.replicate r'.length 0 ++ i :: suf)) := by show Blk _ _ _; rw [← hW, HM.out]; exact hB2
      have HA3 : Hid (ArR (fun b => b ≠ h) W r' g') := by show ArR _ _ _ _; rw [← hW]; exact ArR.mono (w := wr.setCell ⟨h, m, none⟩ (.int .i64 i)) (w' := (wr.setCell ⟨h, m, none⟩ (.int .i64 i)).drew) (fun _ h => h) (fun b _ _ ho => ho) r' g' hA3
      have Hb3 : Hid (Below h w W) := by show Below _ _ _; rw [← hW]; exact hb3
      have hs2 : Hid (r'.reverse ++ (i :: suf) = rv.reverse ++ [c]) := by
        show _ = _
        rw [← hsuf.out]
        simp
      have hms : Hid (lenAt W (.pointer (some ⟨g', 0, none⟩)) = m) := by
        obtain ⟨_, _, _, _, c5, _⟩ := HA3.out.cells
        rw [HM.out] at c5
        exact lenAt_eq c5
      rw [hW]
      clear hW hB2 hA3 hb3 f2 f3 f4 c2 c3 c4 hB' hA hA' hA2 hbr hsuf q0 q1
      go_wp2
      go_roundw
      case rel => exact ⟨r', g', i :: suf, rfl, (by rw [HM.out]; omega), hs2, HA3, HB2, Hb3⟩
      case measure =>
        rw [hms.out, hmeas.out]
        exact Nat.lt_succ_self m
end Go.Proofs.Ytgafpmgdpigliaa
