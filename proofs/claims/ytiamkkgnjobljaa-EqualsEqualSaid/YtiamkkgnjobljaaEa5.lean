/-
  Contracts: how pairs are compared and sorted. No statement is proved here.
-/
import Derived.Test.YtiamkkgnjobljaaEa4
import Derived.Test.YtiamkkgnjobljaaEqS
import Derived.Sort.Statements
namespace Go.Proofs.Ytiamkkgnjobljaa
open Go.RowKit
open Mc (Ed Ma Wv)

/-- How two numbers, two pairs compare. -/
def cmp1 (x y : Int) : Int := if x < y then -1 else if y < x then 1 else 0
def cmpP (p q : Int × Int) : Int := if cmp1 p.1 q.1 ≠ 0 then cmp1 p.1 q.1 else cmp1 p.2 q.2
theorem isNaN_any (x : Int) (w : World) : Calls Try.prog 117 #[.int .i64 x] w fun e w' => e = .returned (.bool false) ∧ w' = w := by
  go_enter Try.func117, Try.ntmps117
  go_wp2
  go_ret
  exact ⟨by simp, rfl⟩
set_option maxRecDepth 100000 in
theorem cmp1_any (x y : Int) (w : World) : Calls Try.prog 98 #[.int .i64 x, .int .i64 y] w fun e w' => e = .returned (.int .i64 (cmp1 x y)) ∧ w' = w := by
  obtain ⟨R, hR⟩ : ∃ R, cmp1 x y = R := ⟨_, rfl⟩
  rw [hR]
  have HR := Lib.hid hR
  clear hR
  go_enter Try.func98, Try.ntmps98
  go_wp2_with fail
  refine (isNaN_any x w).mono ?_
  rintro e w' ⟨rfl, rfl⟩
  go_wp2_with fail
  refine (isNaN_any y _).mono ?_
  rintro e w' ⟨rfl, rfl⟩
  by_cases h1 : x < y
  · have h1' : decide (x < y) = true := decide_eq_true h1
    obtain rfl : R = -1 := by rw [← HR.out]; unfold cmp1; rw [if_pos h1]
    go_wp2
    go_ret
    exact ⟨rfl, rfl⟩
  · have h1' : decide (x < y) = false := decide_eq_false h1
    by_cases h2 : y < x
    · have h2' : decide (x > y) = true := decide_eq_true h2
      obtain rfl : R = 1 := by rw [← HR.out]; unfold cmp1; rw [if_neg h1, if_pos h2]
      go_wp2
      go_ret
      exact ⟨rfl, rfl⟩
    · have h2' : decide (x > y) = false := decide_eq_false h2
      obtain rfl : R = 0 := by rw [← HR.out]; unfold cmp1; rw [if_neg h1, if_neg h2]
      go_wp2
      go_ret
      exact ⟨rfl, rfl⟩
set_option maxRecDepth 100000 in
set_option maxHeartbeats 1000000 in
theorem scmp_any (b1 b2 : Nat) (p q : Int × Int) (w : World) (p0 : w.cell? ⟨b1, 0, none⟩ = some (.int .i64 p.1)) (p1 : w.cell? ⟨b1, 1, none⟩ = some (.int .i64 p.2)) (q0 : w.cell? ⟨b2, 0, none⟩ = some (.int .i64 q.1)) (q1 : w.cell? ⟨b2, 1, none⟩ = some (.int .i64 q.2)) :
    Calls Try.prog 83 #[.slice (some ⟨b1, 0, none⟩) 2 2, .slice (some ⟨b2, 0, none⟩) 2 2] w fun e w' => e = .returned (.int .i64 (cmpP p q)) ∧ w' = w := by
  obtain ⟨x0, x1⟩ := p
  obtain ⟨y0, y1⟩ := q
  obtain ⟨R, hR⟩ : ∃ R, cmpP (x0, x1) (y0, y1) = R := ⟨_, rfl⟩
  rw [hR]
  have HR := Lib.hid hR
  have C0 := Lib.hid (cmp1_any x0 y0 w)
  have C1 := Lib.hid (cmp1_any x1 y1 w)
  have e0 : cmp1 x0 y0 = cmp1 x0 y0 := rfl
  obtain ⟨c0, hc0⟩ : ∃ c, cmp1 x0 y0 = c := ⟨_, rfl⟩
  obtain ⟨c1, hc1⟩ : ∃ c, cmp1 x1 y1 = c := ⟨_, rfl⟩
  have hE : Hid (R = if c0 ≠ 0 then c0 else c1) := by show _ = _; rw [← HR.out]; unfold cmpP; simp only [hc0, hc1]
  have hc1v : Hid (c1 = 0 ∨ c1 ≠ 0) := by show _ ∨ _; omega
  rw [hc0] at C0
  rw [hc1] at C1
  simp only at p0 p1 q0 q1
  clear hR HR e0 hc0 hc1
  go_enter Try.func83, Try.ntmps83
  go_wp2_with fail
  go_loopw [11] (fun z wr => ∃ k : Nat, k ≤ 2 ∧ z = .int .i64 k ∧ Hid (Zk 1 k c0) ∧ Hid (Zk 2 k c1) ∧ wr = w) (fun z _ => 2 - (intOf z).toNat)
  case atStart => exact ⟨0, by omega, rfl, fun h => by omega, fun h => by omega, rfl⟩
  case round =>
    obtain ⟨k, hk, rfl, h0, h1, rfl⟩ := hrel
    by_cases hk0 : k = 0
    · subst hk0
      go_wp2_with fail
      refine C0.out.mono ?_
      rintro e w' ⟨rfl, rfl⟩
      by_cases hc : c0 = 0
      · subst hc
        go_wp2
        go_roundw
        case rel => exact ⟨1, by omega, by go_num, (fun _ => rfl), (fun h => by omega), trivial⟩
        case measure => simp [intOf]
      · have hcb : (c0 == 0) = false := by rw [beq_eq_false_iff_ne]; exact hc
        obtain rfl : R = c0 := by rw [hE.out, if_pos hc]
        go_wp2
        go_ret
        exact ⟨rfl, rfl⟩
    · by_cases hk1 : k = 1
      · subst hk1
        have hz := h0.out (by omega)
        subst hz
        go_wp2_with fail
        refine C1.out.mono ?_
        rintro e w' ⟨rfl, rfl⟩
        by_cases hc : c1 = 0
        · subst hc
          go_wp2
          go_roundw
          case rel => exact ⟨2, by omega, by go_num, (fun _ => rfl), (fun _ => rfl), trivial⟩
          case measure => simp [intOf]
        · have hcb : (c1 == 0) = false := by rw [beq_eq_false_iff_ne]; exact hc
          obtain rfl : R = c1 := by rw [hE.out, if_neg (by simp)]
          go_wp2
          go_ret
          exact ⟨rfl, rfl⟩
      · obtain rfl : k = 2 := by omega
        have hz := h0.out (by omega)
        have hz1 := h1.out (by omega)
        subst hz hz1
        obtain rfl : R = 0 := by rw [hE.out]; simp
        go_wp2
        go_ret
        exact ⟨rfl, rfl⟩
def encP (x : Int × Int) : List Value := [.int .i64 x.1, .int .i64 x.2]
set_option maxRecDepth 100000 in
set_option maxHeartbeats 1000000 in
theorem cmpP_any (x y : Int × Int) (W : World) : Calls Try.prog 82 #[.agg #[.int .i64 x.1, .int .i64 x.2], .agg #[.int .i64 y.1, .int .i64 y.2]] W fun e w' => e = .returned (.int .i64 (cmpP x y)) ∧ ∃ q os', w' = Sort.grow (W.drewN q) os' := by
  obtain ⟨W2, hW2⟩ : ∃ W2, (W.alloc (.cells #[.int .i64 x.1, .int .i64 x.2] 95)).alloc (.cells #[.int .i64 y.1, .int .i64 y.2] 95) = W2 := ⟨_, rfl⟩
  have hG : ∃ os', W2 = Sort.grow W os' := ⟨_, by rw [← hW2, Sort.alloc_eq_grow, Sort.alloc_eq_grow, Sort.grow_grow]⟩
  have HB : ∀ n, Calls Try.prog 83 #[.slice (some ⟨W.heap.size, 0, none⟩) 2 2, .slice (some ⟨W.heap.size + 1, 0, none⟩) 2 2] (W2.drewN n) fun e w' => e = .returned (.int .i64 (cmpP x y)) ∧ w' = W2.drewN n := fun n => by
    have h1 : W2.heap[W.heap.size]? = some (.cells #[.int .i64 x.1, .int .i64 x.2] 95 (0, 0)) := by
      rw [← hW2]; exact (Below.heap_alloc _ _ _ (by simp)).trans (heap_alloc_new W _)
    have h2 : W2.heap[W.heap.size + 1]? = some (.cells #[.int .i64 y.1, .int .i64 y.2] 95 (0, 0)) := by
      rw [← hW2]
      have := heap_alloc_new (W.alloc (.cells #[.int .i64 x.1, .int .i64 x.2] 95)) (.cells #[.int .i64 y.1, .int .i64 y.2] 95)
      rwa [World.size_alloc] at this
    refine scmp_any _ _ x y (W2.drewN n) ?_ ?_ ?_ ?_ <;> (show W2.cell? _ = _) <;> first
      | (rw [cell_of_row _ _ _ _ _ _ h1]; rfl)
      | (rw [cell_of_row _ _ _ _ _ _ h2]; rfl)
  have HBB := Lib.hid HB
  have HG := Lib.hid hG
  clear HB hG
  go_enter Try.func82, Try.ntmps82
  go_wp2_with fail
  go_region_held3 (fun w' => w' = W2.drewN 1) (first | rfl | assumption | go_keep)
    (first
      | (go_at_call 83
         refine (HBB.out 1).mono ?_
         rintro e w' ⟨rfl, rfl⟩
         dsimp only)
      | fail)
  go_wp2
  go_ret
  obtain ⟨os', h⟩ := HG.out
  exact ⟨rfl, 1, os', by rw [h]; rfl⟩

theorem cmp1_lt {x y : Int} : cmp1 x y < 0 ↔ x < y := by
  unfold cmp1
  split
  · simp; assumption
  · split <;> simp <;> omega
theorem cmp1_zero {x y : Int} : cmp1 x y = 0 ↔ x = y := by
  unfold cmp1
  split
  · simp; omega
  · split <;> simp <;> omega
theorem cmpP_lt {p q : Int × Int} : cmpP p q < 0 ↔ p.1 < q.1 ∨ (p.1 = q.1 ∧ p.2 < q.2) := by
  unfold cmpP
  by_cases h : cmp1 p.1 q.1 = 0
  · rw [if_neg (by simpa using h), cmp1_lt]
    have := cmp1_zero.1 h
    omega
  · rw [if_pos h, cmp1_lt]
    have : p.1 ≠ q.1 := fun e => h (cmp1_zero.2 e)
    omega
theorem cmpP_swo : Sort.SWO (ltOf cmpP) where
  irrefl x := by unfold ltOf; rw [decide_eq_false_iff_not, cmpP_lt]; omega
  trans x y z h1 h2 := by
    unfold ltOf at *
    rw [decide_eq_true_iff, cmpP_lt] at *
    omega
  ntrans x y z h1 h2 := by
    unfold ltOf at *
    rw [decide_eq_false_iff_not, cmpP_lt] at *
    omega
theorem cmpP_lays (blk off size : Nat) (w : World) : CmpLays Try.prog 82 #[] encP 2 cmpP blk off size w := fun _ _ _ _ x y => cmpP_any x y _
theorem flat_at (d : Array (Int × Int)) (k : Nat) (hk : k < d.size) : (Sort.flatK encP 2 d)[k * 2]! = Value.int .i64 (d[k]!).1 ∧ (Sort.flatK encP 2 d)[k * 2 + 1]! = Value.int .i64 (d[k]!).2 := by
  constructor
  · rw [Sort.get_flatK encP 2 d (k * 2) (by omega), show k * 2 / 2 = k by omega, show k * 2 % 2 = 0 by omega]
    rfl
  · rw [Sort.get_flatK encP 2 d (k * 2 + 1) (by omega), show (k * 2 + 1) / 2 = k by omega, show (k * 2 + 1) % 2 = 1 by omega]
    rfl
theorem own_pair {w : World} {base blk n cap : Nat} {ps : List (Int × Int)} (h : w.ownsRow base 95 2 (.slice (some ⟨blk, 0, none⟩) n cap) n (eC ps)) {k : Nat} {p : Int × Int} (hk : ps[k]? = some p) :
    w.cell? ⟨blk, k * 2, none⟩ = some (.int .i64 p.1) ∧ w.cell? ⟨blk, k * 2 + 1, none⟩ = some (.int .i64 p.2) := by
  obtain ⟨h1, h2⟩ := eC_at hk
  have hc : ∀ j v, (eC ps)[j]? = some v → w.cell? ⟨blk, j, none⟩ = some v := fun j v hj => by
    have := h.cells (g := blk) rfl j v hj
    rw [Addr.add_lit] at this
    simpa using this
  exact ⟨hc _ _ h1, hc _ _ h2⟩
theorem own_blkE {w : World} {base blk n cap : Nat} {e : TypeId} {s : Nat} {xs : List Value} (h : w.ownsRow base e s (.slice (some ⟨blk, 0, none⟩) n cap) n xs) (hn : 0 < n) : base ≤ blk ∧ ∃ cur, w.heap[blk]? = some (.cells cur e (0, 0)) := by
  rcases h.2 with ⟨_, h0⟩ | ⟨g, cap', cur, e1, hb, hg, _⟩
  · omega
  · injection e1 with e1 _ _
    injection e1 with e1
    injection e1 with e1 _ _
    subst e1
    exact ⟨hb, cur, hg⟩
theorem arr_get (ps : List (Int × Int)) {k : Nat} {p : Int × Int} (h : ps[k]? = some p) : ps.toArray[k]! = p := by
  obtain ⟨hl, rfl⟩ := List.getElem?_eq_some_iff.1 h
  rw [getElem!_pos ps.toArray k (by simpa using hl)]
  simp
set_option maxRecDepth 100000 in
set_option maxHeartbeats 1000000 in
theorem esort_any (base blk n cap : Nat) (ps : List (Int × Int)) (w : World) (h : w.ownsRow base 95 2 (.slice (some ⟨blk, 0, none⟩) n cap) n (eC ps)) (hl : ps.length = n) (hp : 0 < n) (hn : n ≤ 1000000) :
    Calls Try.prog 81 #[.slice (some ⟨blk, 0, none⟩) n cap, .func (.func 82) #[] #[]] w fun e w' => e = .returned (.tuple #[]) ∧ ∃ qs : List (Int × Int), qs.Perm ps ∧ qs.Pairwise (fun p q => ¬ cmpP q p < 0) ∧ RdP w' (some ⟨blk, 0, none⟩) qs ∧ w.grownBy w' (some blk) := by
  obtain ⟨hb, cur, hg⟩ := own_blkE h hp
  have hblk := heap_lt hg
  have hsz : ps.toArray.size = n := by simpa using hl
  have eg : ∀ args w, (callFunc 82 args).run Try.prog w = .ok (.enter 82 args) w := enters_of Try.func82 (by kernel_rfl) rfl
  have hH : Sort.HoldsK encP 2 w blk 0 ps.toArray := by
    intro j hj
    rw [Sort.size_flatK, hsz] at hj
    have hfz : w.frozen? ⟨blk, 0 + j, none⟩ = false := by simp [World.frozen?, hg]
    refine ⟨?_, hfz⟩
    have hkl : j / 2 < ps.length := by omega
    have hk := List.getElem?_eq_getElem hkl
    obtain ⟨c1, c2⟩ := own_pair h hk
    obtain ⟨f1, f2⟩ := flat_at ps.toArray (j / 2) (by rw [hsz]; omega)
    rw [arr_get ps hk] at f1 f2
    rw [Nat.zero_add]
    rcases Nat.mod_two_eq_zero_or_one j with h2 | h2
    · have e : j / 2 * 2 = j := by omega
      rw [e] at c1 f1
      rw [f1]
      exact c1
    · have e : j / 2 * 2 + 1 = j := by omega
      rw [e] at c2 f2
      rw [f2]
      exact c2
  have hcon := AnyQ.slices_SortFunc Try.sortP 2 Try.isAgg95 Try.sizeOf95 encP (fun _ => rfl) (fun x v hv => by simp [encP] at hv; rcases hv with rfl | rfl <;> rfl) cmpP cmpP_swo 82 #[] blk 0 cap ps.toArray w eg (cmpP_lays blk 0 ps.toArray.size w) hH hblk (by rw [hsz]; omega)
  change Calls Try.prog 81 _ _ _ at hcon
  rw [hsz] at hcon
  refine hcon.mono ?_
  rintro e w' ⟨rfl, d', m, os, hperm, hsort, rfl⟩
  obtain ⟨hs', _, hpm⟩ := hperm
  try rw [hsz] at hs'
  try rw [hsz] at hpm
  have hdl : d'.toList.length = n := by simpa using hs'
  have hkey : ∀ b, b < w.heap.size → (sortWorldK encP 2 w blk 0 m d' os).heap[b]? = (Sort.putRowK encP 2 (Sort.ahead w m) blk 0 d').heap[b]? := fun b hb2 => by
    show ((Sort.putRowK encP 2 (Sort.ahead w m) blk 0 d').heap ++ os)[b]? = _
    refine Array.getElem?_append_left ?_
    show b < (Sort.putRow id (Sort.ahead w m) blk 0 (Sort.flatK encP 2 d')).heap.size
    rw [Sort.size_putRow]
    exact hb2
  refine ⟨rfl, d'.toList, ?_, ?_, ?_, ?_⟩
  · have e1 : d'.extract 0 n = d' := by rw [← hs']; simp
    have e2 : ps.toArray.extract 0 n = ps.toArray := by have := hsz; simp at this; rw [← this]; simp
    rw [e1, e2] at hpm
    simpa using hpm
  · rw [List.pairwise_iff_getElem]
    intro i j hi hj hij
    have h1 := hsort i j (Nat.zero_le _) hij (by rw [← hdl]; exact hj)
    unfold ltOf at h1
    rw [decide_eq_false_iff_not] at h1
    have hi' : i < d'.size := by simpa using hi
    have hj' : j < d'.size := by simpa using hj
    rw [getElem!_pos d' i hi', getElem!_pos d' j hj'] at h1
    simpa using h1
  · intro _
    refine ⟨blk, 0, rfl, ?_, fun k x hk => ?_⟩
    · show blk < ((Sort.putRowK encP 2 (Sort.ahead w m) blk 0 d').heap ++ os).size
      rw [Array.size_append]
      have : (Sort.putRowK encP 2 (Sort.ahead w m) blk 0 d').heap.size = w.heap.size := Sort.size_putRow _ _ _ _ _
      omega
    · have hk' : k < d'.size := by have := (List.getElem?_eq_some_iff.1 hk).1; simpa using this
      have hx : d'[k]! = x := by
        rw [getElem!_pos d' k hk']
        have := (List.getElem?_eq_some_iff.1 hk).2
        simpa using this
      obtain ⟨f1, f2⟩ := flat_at d' k hk'
      have hc : ∀ j v, j < d'.size * 2 → (Sort.flatK encP 2 d')[j]! = v → (sortWorldK encP 2 w blk 0 m d' os).cell? ⟨blk, j, none⟩ = some v := fun j v hj hv => by
        rw [World.cell?_of_block (w := Sort.putRowK encP 2 (Sort.ahead w m) blk 0 d') (a := ⟨blk, j, none⟩) (hkey blk hblk)]
        have := Sort.cell?_putRow id (Sort.ahead w m) blk 0 (Sort.flatK encP 2 ps.toArray) (Sort.flatK encP 2 d') hH (by rw [Sort.size_flatK, Sort.size_flatK, hs', hsz]) j (by rw [Sort.size_flatK]; exact hj)
        rw [Nat.zero_add] at this
        rw [← hv]
        exact this
      rw [hx] at f1 f2
      rw [Nat.zero_add]
      exact ⟨hc _ _ (by omega) f1, hc _ _ (by omega) f2⟩
  · refine ⟨rfl, rfl, rfl, ?_, fun b hb2 hne => ?_⟩
    · show w.heap.size ≤ ((Sort.putRowK encP 2 (Sort.ahead w m) blk 0 d').heap ++ os).size
      rw [Array.size_append]
      have : (Sort.putRowK encP 2 (Sort.ahead w m) blk 0 d').heap.size = w.heap.size := Sort.size_putRow _ _ _ _ _
      omega
    · rw [hkey b hb2]
      show ((Sort.ahead w m).heap.modify blk _)[b]? = _
      rw [Array.getElem?_modify, if_neg (fun e => hne (by rw [e]))]
      rfl
end Go.Proofs.Ytiamkkgnjobljaa
