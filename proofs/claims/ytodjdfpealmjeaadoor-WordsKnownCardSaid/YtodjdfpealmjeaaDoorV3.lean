/-
  Contract: the iterator that words.All returns.
-/
import Derived.Test.YtodjdfpealmjeaaDoorV2
namespace Go.Proofs.YtodjdfpealmjeaaDoor
open Go.RowKit Go.Shelf

theorem KC.cell {p q : Nat} {W W' : World} (h : KC p q W W') {b o : Nat} {v : Value} (hp : b ≠ p) (hq : b ≠ q) (hc : W.cell? ⟨b, o, none⟩ = some v) : W'.cell? ⟨b, o, none⟩ = some v := by
  have hx : ∃ x, W.heap[b]? = some x ∧ x.isCells = true := by
    unfold World.cell? at hc
    cases hx : W.heap[b]? with
    | none => simp [hx] at hc
    | some x => exact ⟨x, rfl, by cases x <;> simp_all [Obj.isCells]⟩
  obtain ⟨x, hx, hcx⟩ := hx
  exact (World.cell?_of_block (w := W) (a := ⟨b, o, none⟩) ((h.2 b x hp hq hx hcx).trans hx.symm)).trans hc
theorem KC.of_below {p q : Nat} {W W' : World} (h : Below W.heap.size W W') : KC p q W W' := KC.of_all (KA.of_below h)
theorem wv_eq {n : Int} {k : Nat} {zs : List Int} (A : Option Addr) (h : M.word n k = zs) : wv n k A = #[.slice A zs.length zs.length] := by
  unfold wv
  rw [h]

theorem wide_calls {m : Nat} {g : FuncId} {args : Array Value} {w : World} {R R' : Ending → World → Prop} (h : Calls Tryd.prog g args w R) (hr : ∀ e w', R e w' → R' e w') :
    Fence.wide.fn g ∧ (Fence.wide.depth.isSome = true → 1 ≤ m) ∧ CallsIn Fence.wide (m - 1) Tryd.prog g args w R' :=
  ⟨trivial, (fun h => by simp [Fence.wide] at h), (callsIn_wide.2 h).mono hr⟩
theorem round_calls {m l : Nat} {g : FuncId} {args : Array Value} {w : World} {R R' : Ending → World → Prop} (h : Calls Tryd.prog g args w R) (hr : ∀ e w', R e w' → R' e w') :
    (Fence.wide.inRound l).fn g ∧ ((Fence.wide.inRound l).depth.isSome = true → 1 ≤ m) ∧ CallsIn (Fence.wide.inRound l) (m - 1) Tryd.prog g args w R' := wide_calls h hr

set_option maxRecDepth 100000 in
set_option maxHeartbeats 1600000 in
theorem all1_gives (m c1 c2 p q N : Nat) (n most : Int) (w : World) (h1 : w.cell? ⟨c1, 0, none⟩ = some (.int .i64 n)) (h2 : w.cell? ⟨c2, 0, none⟩ = some (.int .i64 most))
    (hp1 : c1 ≠ p) (hq1 : c1 ≠ q) (hp2 : c2 ≠ p) (hq2 : c2 ≠ q) (hp : p < w.heap.size) (hq : q < w.heap.size) (hc1 : c1 < w.heap.size) (hc2 : c2 < w.heap.size)
    (hn1 : 1 ≤ n) (hn2 : n ≤ 16) (hm1 : 0 ≤ most) (hm2 : most ≤ 256) (hN : ∀ j, j < N → ((M.word n j).length : Int) ≤ most) (hE : most < ((M.word n N).length : Int)) :
    Gives m 50 #[.pointer (some ⟨c1, 0, none⟩), .pointer (some ⟨c2, 0, none⟩)] n N p q w := by
  intro l J Jx W hW hJ hJx hY h0
  have k1 : W.cell? ⟨c1, 0, none⟩ = some (.int .i64 n) := (hW.cell (p := ⟨c1, 0, none⟩) hc1).trans h1
  have k2 : W.cell? ⟨c2, 0, none⟩ = some (.int .i64 most) := (hW.cell (p := ⟨c2, 0, none⟩) hc2).trans h2
  have hsz := hW.size
  have JJ := Lib.hid hJ
  have JX := Lib.hid hJx
  have YY := Lib.hid hY
  have NN := Lib.hid hN
  have EE := Lib.hid hE
  clear hJ hJx hY hN hE hW h1 h2
  refine callsIn_of_wp Tryd.func50 rfl trivial ?_ rfl
  simp only [Tryd.ntmps50, List.size_toArray, List.length_cons, List.length_nil, Nat.reduceAdd, Nat.reduceSub, Array.replicate_succ, Array.replicate_zero, List.push_toArray, List.append_toArray, List.nil_append, List.cons_append]
  have hb0 : Below W.heap.size W (W.alloc (.cells #[] 3)) := (Below.refl _ _).alloc (Nat.le_refl _) _
  gi_wp2
  gi_loopw [4] (fun v wr => ∃ (k : Nat) (A : Option Addr), k ≤ N ∧ v = .slice A (M.word n k).length (M.word n k).length ∧ Own2 p q wr A (M.word n k) ∧ J k wr ∧ wr.cell? ⟨c1, 0, none⟩ = some (.int .i64 n) ∧ wr.cell? ⟨c2, 0, none⟩ = some (.int .i64 most) ∧ w.heap.size ≤ wr.heap.size)
    (fun v wr => left n N p q v wr)
  case atStart => exact ⟨0, _, Nat.zero_le _, rfl, fun h => absurd h (by simp [M.word]), JJ.out _ _ _ h0 hb0, (hb0.cell (p := ⟨c1, 0, none⟩) (by show c1 < _; omega)).trans k1, (hb0.cell (p := ⟨c2, 0, none⟩) (by show c2 < _; omega)).trans k2, by have := hb0.size; omega⟩
  case round =>
    obtain ⟨k, A, hk, rfl, ho, hj, e1, e2, hs⟩ := hrel
    clear k1 k2 hsz h0 hb0
    obtain ⟨zs, hzs⟩ : ∃ zs, M.word n k = zs := ⟨_, rfl⟩
    have HZ := Lib.hid hzs
    have MU := Lib.hid (left_at hn1 N p q k A wr ho)
    rw [hzs] at ho
    rw [hzs] at MU
    obtain ⟨vz, _⟩ := word_val hn1 k
    rw [hzs] at vz
    by_cases hlt : k < N
    · have hle : (zs.length : Int) ≤ most := by rw [← hzs]; exact NN.out k hlt
      rw [hzs]
      clear hzs
      have hl2 : zs.length ≤ 65536 := by omega
      gi_wp2_with fail
      refine wide_calls (follow_blk A zs.length zs n wr ho.rd hl2 hn1 hn2 vz) ?_
      rintro e w1 ⟨g, rfl, hg, hb, hbl⟩
      have ho1 := ho.keep (KC.of_below hbl)
      obtain ⟨fn, tmps, assign, body, hy, hR⟩ := YY.out k A w1 hlt (JJ.out _ _ _ hj hbl) (by rw [HZ.out]; exact ho1)
      rw [wv_eq A HZ.out] at hy
      have f1 := (KC.of_below hbl).cell hp1 hq1 e1
      have f2 := (KC.of_below hbl).cell hp2 hq2 e2
      have hs1 := hbl.size
      have ho2 : Own2 p q w1 (some ⟨g, 0, none⟩) (M.next n zs) := fun _ => ⟨g, rfl, by omega, by omega, hb⟩
      clear e1 e2 ho ho1 hbl hb
      gi_wp2_with fail
      refine ⟨(fun h => by simp [Fence.wide] at h), hR.mono ?_⟩
      rintro e W3 (⟨rfl, hJ3, hk3⟩ | ⟨rfl, hJx3⟩)
      · have ho3 := ho2.keep hk3
        have g1 := hk3.cell hp1 hq1 f1
        have g2 := hk3.cell hp2 hq2 f2
        have hs3 := hk3.1
        clear ho2 hk3 f1 f2 hy hR
        have hnx : M.word n (k + 1) = M.next n zs := by rw [M.word, HZ.out]
        have MV := Lib.hid (left_at hn1 N p q (k + 1) (some ⟨g, 0, none⟩) W3 (by rw [hnx]; exact ho3))
        rw [hnx] at MV
        gi_wp2
        go_roundw
        case rel => exact ⟨k + 1, some ⟨g, 0, none⟩, by omega, by rw [hnx], by rw [hnx]; exact ho3, hJ3, g1, g2, by omega⟩
        case measure =>
          show left n N p q (.slice (some ⟨g, 0, none⟩) (M.next n zs).length (M.next n zs).length) W3 < left n N p q (.slice A zs.length zs.length) wr
          rw [MV.out, MU.out]
          omega
      · clear hy hR
        gi_wp2
        refine bodyPost_ret (results_none rfl _ _ _) rfl ?_
        exact ⟨⟨_, rfl⟩, .inr hJx3⟩
    · obtain rfl : k = N := by omega
      have hgt : ¬ (zs.length : Int) ≤ most := by rw [← hzs]; have := EE.out; omega
      rw [hzs]
      clear hzs
      gi_wp2
      go_end0
      exact ⟨⟨_, rfl⟩, .inl hj⟩

set_option maxRecDepth 100000 in
set_option maxHeartbeats 1600000 in
/-- Out of range: it returns at once. -/
theorem all1_none (m c1 c2 p q : Nat) (n most : Int) (w : World) (h1 : w.cell? ⟨c1, 0, none⟩ = some (.int .i64 n)) (h2 : w.cell? ⟨c2, 0, none⟩ = some (.int .i64 most))
    (hc1 : c1 < w.heap.size) (hc2 : c2 < w.heap.size) (hbad : 16 < n ∨ (1 ≤ n ∧ n ≤ 16 ∧ most < 0)) :
    Gives m 50 #[.pointer (some ⟨c1, 0, none⟩), .pointer (some ⟨c2, 0, none⟩)] n 0 p q w := by
  intro l J Jx W hW _ _ _ h0
  have k1 : W.cell? ⟨c1, 0, none⟩ = some (.int .i64 n) := (hW.cell (p := ⟨c1, 0, none⟩) hc1).trans h1
  have k2 : W.cell? ⟨c2, 0, none⟩ = some (.int .i64 most) := (hW.cell (p := ⟨c2, 0, none⟩) hc2).trans h2
  clear hW h1 h2
  refine callsIn_of_wp Tryd.func50 rfl trivial ?_ rfl
  simp only [Tryd.ntmps50, List.size_toArray, List.length_cons, List.length_nil, Nat.reduceAdd, Nat.reduceSub, Array.replicate_succ, Array.replicate_zero, List.push_toArray, List.append_toArray, List.nil_append, List.cons_append]
  rcases hbad with hb | ⟨hb1, hb2, hb3⟩
  · have hb1 : ¬ n < 1 := by omega
    gi_wp2
    refine bodyPost_ret (results_none rfl _ _ _) rfl ?_
    exact ⟨⟨_, rfl⟩, .inl h0⟩
  · gi_wp2
    refine bodyPost_ret (results_none rfl _ _ _) rfl ?_
    exact ⟨⟨_, rfl⟩, .inl h0⟩
end Go.Proofs.YtodjdfpealmjeaaDoor
