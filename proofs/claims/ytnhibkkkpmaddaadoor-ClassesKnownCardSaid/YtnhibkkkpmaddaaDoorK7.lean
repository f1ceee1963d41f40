/-
  The walk of the law ClassesKnown.
-/
import Derived.Test.YtnhibkkkpmaddaaDoorKnoM
import Derived.Test.YtnhibkkkpmaddaaDoorK2
import Derived.Test.YtnhibkkkpmaddaaDoorK3
import Derived.Test.YtnhibkkkpmaddaaDoorK6
import Derived.BigRegion
import Derived.Deep.RegionWith
import Derived.Deep.CutRange
namespace Go.Proofs.YtnhibkkkpmaddaaDoor
open Go.RowKit

theorem known_of (A : Option Addr) (n c : Nat) (zs : List Int) (w : World) (he : Env w) (ha : Rd w A zs) (hn : zs.length = n) (hv : M.I64 zs) :
    Calls Tryd.prog 4 #[.slice A n c] w fun e w' => e = .returned (.bool true) ∧ Below w.heap.size w w' := by
  subst hn
  exact classesOf_walk A c zs w he ha hv
theorem known_check (A B : Option Addr) (n m c d : Nat) (zs ys : List Int) (w : World) (he : Env w) (ha : Rd w A zs) (hb : Rd w B ys) (hn : zs.length = n) (hm : ys.length = m) :
    Calls Tryd.prog 3 #[.slice A n c, .slice B m d] w fun e w' => e = .returned (.bool true) ∧ Below w.heap.size w w' := by
  subst hn hm
  exact classesCheck_walk A B c d zs ys w he ha hb
theorem known_close (A : Option Addr) (n c : Nat) (k : Int) (ps : List (Int × Int)) (w : World) (he : Env w) (ha : RdP w A ps) (hn : ps.length = n) :
    Calls Tryd.prog 5 #[.int .i64 k, .slice A n c] w fun e w' => e = .returned (.bool true) ∧ Below w.heap.size w w' := by
  subst hn
  exact classesClose_walk A c k ps w he ha
theorem known_meet (A B : Option Addr) (n m c d : Nat) (xs ys : List Int) (w : World) (he : Env w) (ha : Rd8 w A xs) (hb : Rd8 w B ys) (hn : xs.length = n) (hm : ys.length = m) (hl : n ≤ 1000) :
    Calls Tryd.prog 6 #[.agg #[.slice A n c], .agg #[.slice B m d]] w fun e w' => e = .returned (.bool true) ∧ Below w.heap.size w w' := by
  subst hn hm
  exact classesMeet_walk A B c d xs ys w he ha hb (by omega)
theorem known_text (A : Option Addr) (n c : Nat) (xs : List Int) (s : ByteArray) (w : World) (he : Env w) (ha : Rd8 w A xs) (hn : xs.length = n) (hl : n ≤ 1000) :
    Calls Tryd.prog 8 #[.agg #[.slice A n c], .string s] w fun e w' => e = .returned (.bool true) ∧ Below w.heap.size w w' := by
  subst hn
  exact classesText_walk A c xs s w he ha (by omega)
theorem rcheck_n (A : Option Addr) (n c : Nat) (p : List Int) (a : Int) (w : World) (h : Rd w A p) (hn : p.length = n) (ha : M.pck p = a) :
    Calls Tryd.prog 10 #[.slice A n c] w fun e w' => e = .returned (.int .i64 a) ∧ Below w.heap.size w w' := by
  subst hn
  exact rcheck_is A c p a w h ha

/-- The cells of a list of bytes. -/
def bts (zs : List Int) : List Value := zs.map (.int .u8)
theorem bts_at {zs : List Int} {k : Nat} (hk : k < zs.length) : (bts zs)[k]? = some (.int .u8 (zs[k]?.getD 0)) := by
  simp [bts, List.getElem?_eq_getElem hk]
theorem Rd8.of_block {w : World} {zs : List Int} {g : Nat} {t : TypeId} (h : w.heap[g]? = some (.cells (bts zs).toArray t (0, 0))) (hz : ∀ z ∈ zs, 0 ≤ z ∧ z ≤ 255) : Rd8 w (some ⟨g, 0, none⟩) zs := fun _ => by
  have hlt : g < w.heap.size := by
    rcases Nat.lt_or_ge g w.heap.size with h1 | h1
    · exact h1
    · rw [Array.getElem?_eq_none h1] at h; cases h
  refine ⟨g, 0, rfl, hlt, fun k hk => ?_⟩
  have hm : zs[k]?.getD 0 ∈ zs := by rw [List.getElem?_eq_getElem hk]; exact List.getElem_mem hk
  refine ⟨?_, hz _ hm⟩
  rw [cell_of_row w g (0 + k) _ t (0, 0) h, Nat.zero_add]
  simpa using bts_at hk
theorem rd8_lit (w : World) (zs : List Int) (hz : ∀ z ∈ zs, 0 ≤ z ∧ z ≤ 255) : Rd8 (w.alloc (.cells (bts zs).toArray 5)) (some ⟨w.heap.size, 0, none⟩) zs := Rd8.of_block (heap_alloc_new w _) hz

/-- A list of bytes and the P over it, laid in either order. -/
theorem lay_c (w : World) (zs : List Int) (n : Nat) (hz : ∀ z ∈ zs, 0 ≤ z ∧ z ≤ 255) :
    ((w.alloc (.cells (bts zs).toArray 5)).alloc (.cells #[.slice (some ⟨w.heap.size, 0, none⟩) n n] 50)).cell? ⟨w.heap.size + 1, 0, none⟩ = some (.slice (some ⟨w.heap.size, 0, none⟩) n n) ∧
    Rd8 ((w.alloc (.cells (bts zs).toArray 5)).alloc (.cells #[.slice (some ⟨w.heap.size, 0, none⟩) n n] 50)) (some ⟨w.heap.size, 0, none⟩) zs ∧
    Below w.heap.size w ((w.alloc (.cells (bts zs).toArray 5)).alloc (.cells #[.slice (some ⟨w.heap.size, 0, none⟩) n n] 50)) ∧
    w.heap.size + 1 < ((w.alloc (.cells (bts zs).toArray 5)).alloc (.cells #[.slice (some ⟨w.heap.size, 0, none⟩) n n] 50)).heap.size := by
  refine ⟨?_, (rd8_lit w zs hz).alloc _, ((Below.refl _ _).alloc (Nat.le_refl _) _).alloc (by simp) _, by simp⟩
  rw [World.cell?_alloc_at _ _ _ _ (by simp)]; rfl
theorem lay_d (w : World) (zs : List Int) (n : Nat) (hz : ∀ z ∈ zs, 0 ≤ z ∧ z ≤ 255) :
    ((w.alloc (.cells #[.slice (some ⟨w.heap.size + 1, 0, none⟩) n n] 50)).alloc (.cells (bts zs).toArray 5)).cell? ⟨w.heap.size, 0, none⟩ = some (.slice (some ⟨w.heap.size + 1, 0, none⟩) n n) ∧
    Rd8 ((w.alloc (.cells #[.slice (some ⟨w.heap.size + 1, 0, none⟩) n n] 50)).alloc (.cells (bts zs).toArray 5)) (some ⟨w.heap.size + 1, 0, none⟩) zs ∧
    Below w.heap.size w ((w.alloc (.cells #[.slice (some ⟨w.heap.size + 1, 0, none⟩) n n] 50)).alloc (.cells (bts zs).toArray 5)) ∧
    w.heap.size < ((w.alloc (.cells #[.slice (some ⟨w.heap.size + 1, 0, none⟩) n n] 50)).alloc (.cells (bts zs).toArray 5)).heap.size := by
  refine ⟨?_, ?_, ((Below.refl _ _).alloc (Nat.le_refl _) _).alloc (by simp) _, by simp; omega⟩
  · rw [World.cell?_alloc_past _ _ _ (by simp), World.cell?_alloc_at _ _ _ _ rfl]; rfl
  · have := rd8_lit (w.alloc (.cells #[.slice (some ⟨w.heap.size + 1, 0, none⟩) n n] 50)) zs hz
    rw [show (w.alloc (.cells #[.slice (some ⟨w.heap.size + 1, 0, none⟩) n n] 50)).heap.size = w.heap.size + 1 by simp] at this
    exact this
theorem drew_all {w W : World} {X : Nat} {v : Value} {A : Option Addr} {zs : List Int} (h : W.cell? ⟨X, 0, none⟩ = some v ∧ Rd8 W A zs ∧ Below w.heap.size w W ∧ X < W.heap.size) :
    W.drew.cell? ⟨X, 0, none⟩ = some v ∧ Rd8 W.drew A zs ∧ Below w.heap.size w W.drew ∧ X < W.drew.heap.size :=
  ⟨h.1, h.2.1.below (Below.refl _ _).drew, h.2.2.1.drew, h.2.2.2⟩

/-- A made row of ints. -/
theorem make_ints (n : Nat) (z : Int) (hz : z = n) (h : n ≤ 1000) (w : World) :
    (Instr.makeSlice 22 (.int .i64 z) (.int .i64 z)).run Tryd.prog w = .ok (.slice (some ⟨w.heap.size, 0, none⟩) n n) (w.alloc (.cells (ints (List.replicate n 0)).toArray 3)) := by
  subst hz
  rw [run_make_row' (P := Tryd.prog) 22 3 (.int .i64 0) 8 Tryd.underlying22 int_info rfl .i64 .i64 n (by omega) (by omega) w]
  have e := toList_madeCells_one (.int .i64 0) n
  have e2 : madeCells #[.int .i64 0] n = (ints (List.replicate n 0)).toArray := by
    rw [← Array.toList_inj, e]
    simp [ints]
  rw [e2]

set_option maxRecDepth 100000 in
set_option maxHeartbeats 6400000 in
theorem classesKnown_walk (w : World) (he : Env w) :
    Calls Tryd.prog 9 #[] w fun e w' => e = .returned (.bool true) ∧ Below w.heap.size w w' := by
  go_enter Tryd.func9, Tryd.ntmps9
  go_wp2_with fail
  go_loopw [1, 2] (fun v i wr => ∃ (k m : Nat), k ≤ 3125 ∧ i = .int .i64 k ∧ v = .int .i64 m ∧ m ≤ k ∧ Hid (M.good k = m) ∧ St w wr []) (fun _ i _ => 3125 - (intOf i).toNat)
  case atStart => exact ⟨0, 0, by decide, rfl, rfl, Nat.le_refl _, M.good_zero, St.start w⟩
  case round =>
    obtain ⟨k, m, hk, rfl, rfl, hmk, hm, h0⟩ := hrel
    by_cases hlt : k < 3125
    · obtain ⟨d0, e0⟩ : ∃ d, (k : Int) % 5 = d := ⟨_, rfl⟩
      obtain ⟨d1, e1⟩ : ∃ d, (k : Int) / 5 % 5 = d := ⟨_, rfl⟩
      obtain ⟨d2, e2⟩ : ∃ d, (k : Int) / 25 % 5 = d := ⟨_, rfl⟩
      obtain ⟨d3, e3⟩ : ∃ d, (k : Int) / 125 % 5 = d := ⟨_, rfl⟩
      obtain ⟨d4, e4⟩ : ∃ d, (k : Int) / 625 = d := ⟨_, rfl⟩
      obtain ⟨f0, g0⟩ : ∃ d, (k : Int) % 256 = d := ⟨_, rfl⟩
      obtain ⟨f1, g1⟩ : ∃ d, (k : Int) / 3 % 256 = d := ⟨_, rfl⟩
      obtain ⟨f2, g2⟩ : ∃ d, (k : Int) / 7 % 3 = d := ⟨_, rfl⟩
      obtain ⟨f3, g3⟩ : ∃ d, (k : Int) / 11 % 256 = d := ⟨_, rfl⟩
      obtain ⟨f4, g4⟩ : ∃ d, (k : Int) % 2 = d := ⟨_, rfl⟩
      have b0 : 0 ≤ d0 ∧ d0 < 5 := by omega
      have b1 : 0 ≤ d1 ∧ d1 < 5 := by omega
      have b2 : 0 ≤ d2 ∧ d2 < 5 := by omega
      have b3 : 0 ≤ d3 ∧ d3 < 5 := by omega
      have b4 : 0 ≤ d4 ∧ d4 < 5 := by omega
      have hds : Hid (M.digs k = [d0, d1, d2, d3, d4]) := by rw [Hid, M.digs, e0, e1, e2, e3, e4]
      have HI : Hid (M.I64 [d0, d1, d2, d3, d4]) := fun z hz => by
        simp only [List.mem_cons, List.not_mem_nil, or_false] at hz
        omega
      by_cases hv : M.Vd (M.digs k)
      · have hg : Hid (M.good (k + 1) = m + 1) := by rw [Hid, M.good_yes hv, hm.out]
        have hp : Hid (M.pck [d0, d1, d2, d3, d4] = 0) := by rw [Hid, ← hds.out]; exact M.pck_ok (by simp [M.digs]) hv
        have h1 := (h0.alloc (.cells (ints [d0, d1, d2, d3, d4]).toArray 3)).put (rd_lit wr [d0, d1, d2, d3, d4])
        clear h0 hm hv
        go_wp2_with fail
        have G0 := Lib.hid g0
        have G1 := Lib.hid g1
        have G2 := Lib.hid g2
        have G3 := Lib.hid g3
        have G4 := Lib.hid g4
        have fz : ∀ z ∈ [f0, f1, f2, f3, f4], 0 ≤ z ∧ z ≤ 255 := by
          intro z hz
          simp only [List.mem_cons, List.not_mem_nil, or_false] at hz
          omega
        have FZ := Lib.hid fz
        clear fz e0 e1 e2 e3 e4 g0 g1 g2 g3 g4
        refine (rcheck_n _ 5 5 [d0, d1, d2, d3, d4] 0 _ (h1.rd 0 rfl) rfl hp.out).mono ?_
        rintro e w1 ⟨rfl, hb1⟩
        have h2 := h1.next hb1
        clear h1 hb1
        go_wp2_with fail
        obtain ⟨b, off, hA, hb, hc⟩ := (h2.rd 0 rfl) (by simp)
        injection hA with hA
        injection hA with hA1 hA2
        subst hA1 hA2
        have c0 : w1.cell? ⟨wr.heap.size, 0, none⟩ = some (.int .i64 d0) := hc 0 (by simp)
        have c1 : w1.cell? ⟨wr.heap.size, 1, none⟩ = some (.int .i64 d1) := hc 1 (by simp)
        have c2 : w1.cell? ⟨wr.heap.size, 2, none⟩ = some (.int .i64 d2) := hc 2 (by simp)
        have c3 : w1.cell? ⟨wr.heap.size, 3, none⟩ = some (.int .i64 d3) := hc 3 (by simp)
        have c4 : w1.cell? ⟨wr.heap.size, 4, none⟩ = some (.int .i64 d4) := hc 4 (by simp)
        have bz : ∀ z ∈ [d0, d1, d2, d3, d4], 0 ≤ z ∧ z ≤ 255 := by
          intro z hz
          simp only [List.mem_cons, List.not_mem_nil, or_false] at hz
          omega
        have BZ := Lib.hid bz
        clear bz hc
        have h3 : St w w1 [(some ⟨wr.heap.size, 0, none⟩, [d0, d1, d2, d3, d4])] := h2
        clear h2
        go_upto_region 10 with fail
        go_cut [4] from 6 to 94 (fun v wx => ∃ X Y : Nat, v = .pointer (some ⟨X, 0, none⟩) ∧ wx.cell? ⟨X, 0, none⟩ = some (.slice (some ⟨Y, 0, none⟩) 5 5) ∧ Rd8 wx (some ⟨Y, 0, none⟩) [d0, d1, d2, d3, d4] ∧ Below w1.heap.size w1 wx ∧ X < wx.heap.size)
        case first =>
          go_region
          all_goals
            go_wp2_with fail
            go_meet
            first
              | exact ⟨_, _, rfl, drew_all (lay_d w1 [d0, d1, d2, d3, d4] 5 BZ.out)⟩
              | exact ⟨_, _, rfl, drew_all (lay_c w1 [d0, d1, d2, d3, d4] 5 BZ.out)⟩
        case rest =>
        obtain ⟨X, Y, rfl, q1, q2, q3, qX⟩ := hcut
        have h4 := h3.next q3
        have g0 := G0.out
        have g1 := G1.out
        have g2 := G2.out
        have g3 := G3.out
        have g4 := G4.out
        clear h3 q3 c0 c1 c2 c3 c4 b0 b1 b2 b3 b4 G0 G1 G2 G3 G4 hb
        obtain ⟨W, hW⟩ : ∃ W, W = wc := ⟨_, rfl⟩
        go_upto_region 11 with fail
        go_cut [5] from 6 to 94 (fun v wx => ∃ X Y : Nat, v = .pointer (some ⟨X, 0, none⟩) ∧ wx.cell? ⟨X, 0, none⟩ = some (.slice (some ⟨Y, 0, none⟩) 5 5) ∧ Rd8 wx (some ⟨Y, 0, none⟩) [f0, f1, f2, f3, f4] ∧ Below W.heap.size W wx ∧ X < wx.heap.size)
        case first =>
          go_wp2_with fail
          go_meet
          subst hW
          first
            | exact ⟨_, _, rfl, lay_c W [f0, f1, f2, f3, f4] 5 FZ.out⟩
            | exact ⟨_, _, rfl, lay_d W [f0, f1, f2, f3, f4] 5 FZ.out⟩
        case rest =>
        obtain ⟨X2, Y2, rfl, y1, y2, y3, qX2⟩ := hcut
        subst hW
        have x1 := (y3.cell (p := ⟨X, 0, none⟩) qX).trans q1
        have x2 := q2.below y3
        have h5 := h4.next y3
        have qX1 : X < wc.heap.size := by have := y3.size; omega
        clear h4 q1 q2 y3 qX g0 g1 g2 g3 g4
        go_wp2_with fail
        refine (check_lit _ 5 5 [d0, d1, d2, d3, d4] 0 _ (h5.rd 0 rfl) rfl hp.out).mono ?_
        rintro e w3 ⟨rfl, hb3⟩
        have h6 := h5.next hb3
        have x3 : w3.cell? ⟨X, 0, none⟩ = some (.slice (some ⟨Y, 0, none⟩) 5 5) := (hb3.cell (p := ⟨X, 0, none⟩) qX1).trans x1
        have y5 : w3.cell? ⟨X2, 0, none⟩ = some (.slice (some ⟨Y2, 0, none⟩) 5 5) := (hb3.cell (p := ⟨X2, 0, none⟩) qX2).trans y1
        have x4 := x2.below hb3
        have y6 := y2.below hb3
        have qX3 : X < w3.heap.size := by have := hb3.size; omega
        clear h5 hb3 x1 y1 x2 y2 qX1 qX2
        go_wp2_with fail
        refine (known_meet _ _ 5 5 5 5 [d0, d1, d2, d3, d4] [f0, f1, f2, f3, f4] _ (h6.env he) x4 y6 rfl rfl (by decide)).mono ?_
        rintro e w4 ⟨rfl, hb4⟩
        have h7 := h6.next hb4
        have x5 : w4.cell? ⟨X, 0, none⟩ = some (.slice (some ⟨Y, 0, none⟩) 5 5) := (hb4.cell (p := ⟨X, 0, none⟩) qX3).trans x3
        have x6 := x4.below hb4
        clear h6 hb4 x3 x4 y5 y6 qX3
        go_wp2_with fail
        refine (known_text _ 5 5 [d0, d1, d2, d3, d4] _ _ (h7.env he) x6 rfl (by decide)).mono ?_
        rintro e w5 ⟨rfl, hb5⟩
        have h8 : St w w5 [] := ⟨(h7.next hb5).1, fun _ h => by cases h⟩
        clear h7 hb5 x5 x6
        go_wp2_with fail
        go_roundw
        case rel => exact ⟨k + 1, m + 1, by omega, by go_num, by go_num, by omega, hg, h8⟩
        case measure => simp [intOf]; omega
      · have hg : Hid (M.good (k + 1) = m) := by rw [Hid, M.good_no hv, hm.out]
        have hp : Hid (M.pck [d0, d1, d2, d3, d4] = 1) := by rw [Hid, ← hds.out]; exact M.pck_arg (by simp [M.digs]) hv
        have h1 := (h0.alloc (.cells (ints [d0, d1, d2, d3, d4]).toArray 3)).put (rd_lit wr [d0, d1, d2, d3, d4])
        clear h0 hm hv g0 g1 g2 g3 g4
        by_cases h11 : k % 11 = 0
        · have t11 : (k : Int) % 11 = 0 := by omega
          go_wp2_with fail
          refine (rcheck_n _ 5 5 [d0, d1, d2, d3, d4] 1 _ (h1.rd 0 rfl) rfl hp.out).mono ?_
          rintro e w1 ⟨rfl, hb1⟩
          have h2 := h1.next hb1
          clear h1 hb1
          go_wp2_with fail
          refine (check_lit _ 5 5 [d0, d1, d2, d3, d4] 1 _ (h2.rd 0 rfl) rfl hp.out).mono ?_
          rintro e w2 ⟨rfl, hb2⟩
          have h3 := h2.next hb2
          clear h2 hb2
          go_wp2_with fail
          refine (known_of _ 5 5 [d0, d1, d2, d3, d4] _ (h3.env he) (h3.rd 0 rfl) rfl HI.out).mono ?_
          rintro e w3 ⟨rfl, hb3⟩
          have h4 : St w w3 [] := ⟨(h3.next hb3).1, fun _ h => by cases h⟩
          clear h3 hb3
          go_wp2_with fail
          go_roundw
          case rel => exact ⟨k + 1, m, by omega, by go_num, rfl, by omega, hg, h4⟩
          case measure => simp [intOf]; omega
        · have t11 : ((k : Int) % 11 == 0) = false := by
            rw [beq_eq_false_iff_ne]
            omega
          go_wp2_with fail
          refine (rcheck_n _ 5 5 [d0, d1, d2, d3, d4] 1 _ (h1.rd 0 rfl) rfl hp.out).mono ?_
          rintro e w1 ⟨rfl, hb1⟩
          have h4 : St w w1 [] := ⟨(h1.next hb1).1, fun _ h => by cases h⟩
          clear h1 hb1
          go_wp2_with fail
          go_roundw
          case rel => exact ⟨k + 1, m, by omega, by go_num, rfl, by omega, hg, h4⟩
          case measure => simp [intOf]; omega
    · obtain rfl : k = 3125 := by omega
      obtain rfl : m = 52 := hm.out.symm.trans M.good_all
      have h1 : St w wr [] := ⟨h0.1, fun _ h => by cases h⟩
      clear h0 hm hk hmk hlt
      obtain ⟨Z, hZ⟩ : ∃ Z, Hid (List.replicate 256 (0 : Int) = Z) := ⟨_, rfl⟩
      obtain ⟨U, hU⟩ : ∃ U, Hid (List.replicate 257 (0 : Int) = U) := ⟨_, rfl⟩
      have hZl : Hid (Z.length = 256) := by rw [Hid, ← hZ.out, List.length_replicate]
      have hUl : Hid (U.length = 257) := by rw [Hid, ← hU.out, List.length_replicate]
      have hUv : Hid (M.I64 U) := by
        rw [Hid, ← hU.out]
        intro z hz
        have := List.eq_of_mem_replicate hz
        omega
      have mk1 : ∀ w, (Instr.makeSlice 22 (.int .i64 256) (.int .i64 256)).run Tryd.prog w = .ok (.slice (some ⟨w.heap.size, 0, none⟩) 256 256) (w.alloc (.cells (ints Z).toArray 3)) := fun w => by
        rw [← hZ.out]; exact make_ints 256 256 rfl (by decide) w
      have mk2 : ∀ w, (Instr.makeSlice 22 (.int .i64 257) (.int .i64 257)).run Tryd.prog w = .ok (.slice (some ⟨w.heap.size, 0, none⟩) 257 257) (w.alloc (.cells (ints U).toArray 3)) := fun w => by
        rw [← hU.out]; exact make_ints 257 257 rfl (by decide) w
      have s1 : St w ((wr.alloc (.cells (ints Z).toArray 3)).alloc (.cells (ints Z).toArray 3)).drew [] :=
        ⟨((h1.alloc (.cells (ints Z).toArray 3)).alloc (.cells (ints Z).toArray 3)).1.drew, fun _ h => by cases h⟩
      have r1 : Rd ((wr.alloc (.cells (ints Z).toArray 3)).alloc (.cells (ints Z).toArray 3)).drew (some ⟨wr.heap.size, 0, none⟩) Z := (rd_fst wr Z _).below (Below.refl _ _).drew
      have r2 : Rd ((wr.alloc (.cells (ints Z).toArray 3)).alloc (.cells (ints Z).toArray 3)).drew (some ⟨wr.heap.size + 1, 0, none⟩) Z := (rd_snd wr Z _).below (Below.refl _ _).drew
      clear h1
      go_wp2_with fail
      go_region_with (first
        | (go_at_call 3
           (with_reducible refine (known_check _ _ 256 256 256 256 Z Z _ (s1.env he) r1 r2 hZl.out hZl.out).mono ?_)
           rintro e w1 ⟨rfl, hb1⟩
           have s2 := s1.next hb1
           have s3 := s2.alloc (.cells (ints U).toArray 3)
           have r3 := rd_lit w1 U)
        | (go_at_call 3
           (with_reducible refine (known_check _ _ 256 256 256 256 Z Z _ (s1.env he) r2 r1 hZl.out hZl.out).mono ?_)
           rintro e w1 ⟨rfl, hb1⟩
           have s2 := s1.next hb1
           have s3 := s2.alloc (.cells (ints U).toArray 3)
           have r3 := rd_lit w1 U)
        | (go_at_call 3
           (with_reducible refine (known_check _ none 257 0 257 0 U [] _ (s3.env he) r3 Rd.nil_ hUl.out rfl).mono ?_)
           rintro e w2 ⟨rfl, hb2⟩
           have s4 := s3.next hb2
           have s5 : St w (w2.alloc (.cells #[.int .i64 0, .int .i64 255] 45)) [] := s4.alloc _
           have r4 : RdP (w2.alloc (.cells #[.int .i64 0, .int .i64 255] 45)) (some ⟨w2.heap.size, 0, none⟩) [(0, 255)] := rdp_lit w2 [(0, 255)])
        | (go_at_call 5
           (with_reducible refine (known_close _ 1 1 256 [(0, 255)] _ (s5.env he) r4 rfl).mono ?_)
           rintro e w3 ⟨rfl, hb3⟩
           have s6 := s5.next hb3)
        | (go_at_call 5
           (with_reducible refine (known_close none 0 0 257 [] _ (s6.env he) RdP.nil_ rfl).mono ?_)
           rintro e w4 ⟨rfl, hb4⟩
           have s7 := s6.next hb4)
        | (go_at_call 5
           (with_reducible refine (known_close none 0 0 0 [] _ (s7.env he) RdP.nil_ rfl).mono ?_)
           rintro e w5 ⟨rfl, hb5⟩
           have s8 := s7.next hb5
           have s9 := s8.alloc (.cells (ints U).toArray 3)
           have r5 := rd_lit w5 U)
        | (go_at_call 4
           (with_reducible refine (known_of _ 257 257 U _ (s9.env he) r5 hUl.out hUv.out).mono ?_)
           rintro e w6 ⟨rfl, hb6⟩
           have s10 := s9.next hb6)
        | (go_at_call 15
           (with_reducible refine (lives_any _ (s10.env he)).mono ?_)
           rintro e w7 ⟨rfl, hb7⟩
           have s11 := s10.next hb7))
      all_goals
        go_wp2
        go_ret
        exact ⟨rfl, s11.1⟩
end Go.Proofs.YtnhibkkkpmaddaaDoor
