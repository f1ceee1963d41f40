/-
  Contracts of functions that build lists: times, Of, the reference's Join.
-/
import Derived.Test.YtodjdfpealmjeaaDoorW1
import Derived.Maps.AppendAt
import Derived.RegionTactic
namespace Go.Proofs.YtodjdfpealmjeaaDoor
open Go.RowKit

theorem int_info : (Tryd.prog.info? 3).map (fun i => (i.zero, i.size, i.bytes)) = some (some (.int .i64 0), 1, 8) := by kernel_rfl

/-- What a function that builds a list hands back. -/
def Built (w : World) (zs : List Int) (e : Ending) (w' : World) : Prop := ∃ A c, e = .returned (.slice A zs.length c) ∧ Rd w' A zs ∧ zs.length ≤ c ∧ Below w.heap.size w w'

theorem Built.of_own {w w' : World} {v : Value} {base n : Nat} {zs : List Int} (h : w'.ownsRow base 3 1 v n (ints zs)) (hb : Below w.heap.size w w') : Built w zs (.returned v) w' := by
  have hn : zs.length = n := by have := h.1; rw [ints_len] at this; omega
  subst hn
  rcases h.2 with ⟨rfl, h0⟩ | ⟨g, cap, cur, rfl, _, _, hc, _⟩
  · exact ⟨none, 0, by rw [h0], fun hp => absurd hp (by omega), by omega, hb⟩
  · exact ⟨_, _, rfl, Rd.of_own h, hc, hb⟩

theorem own_step {w wr w1 : World} {B : Nat} {v v1 : Value} {k : Nat} {xs : List Int} {z : Int} {o : Obj} (hbr : Below B w wr) (hB : B ≤ wr.heap.size) (hown : wr.ownsRow B 3 1 v k (ints xs))
    (h1 : w1.ownsRow B 3 1 v1 (k + 1) (ints xs ++ [.int .i64 z])) (hg : (wr.alloc o).grownBy w1 v.ownBlock) :
    w1.ownsRow B 3 1 v1 (k + 1) (ints (xs ++ [z])) ∧ Below B w w1 :=
  ⟨by rw [← ints_snoc]; exact h1, (hbr.alloc hB o).grown hg (by simp; omega) (fun j hj => (hown.lt j hj).1)⟩

set_option maxHeartbeats 400000 in
theorem times_any (n : Nat) (s : Int) (w : World) (hn : n ≤ 65536) :
    Calls Tryd.prog 24 #[.int .i64 n, .int .i64 s] w (Built w (List.replicate n s)) := by
  obtain ⟨i0, hi0, hz0, hz1, hz2⟩ := info_parts int_info
  go_enter Tryd.func24, Tryd.ntmps24
  go_wp2
  go_loopw [5, 6] (fun v i wr => ∃ (k : Nat) (xs : List Int), k ≤ n ∧ i = .int .i64 k ∧ wr.ownsRow w.heap.size 3 1 v k (ints xs) ∧ Hid (xs = List.replicate k s) ∧ Below w.heap.size w wr) (fun _ i _ => n - (intOf i).toNat)
  case atStart => exact ⟨0, [], Nat.zero_le _, rfl, World.ownsRow_nil w _ _ _, rfl, Below.refl _ _⟩
  case round =>
    obtain ⟨k, xs, hk, rfl, hown, hxs, hbr⟩ := hrel
    have hsz := hbr.size
    by_cases hlt : k < n
    · go_wp2_with (at_builtin; refine wpList_append_own _ rfl _ _ 22 rfl w.heap.size 3 i0 (.int .i64 0) 1 8 Tryd.underlying22 hi0 hz0 hz1 hz2 rfl (by decide) _ _ _ rfl (hown.alloc _) ⟨wr.heap.size, 0, none⟩ 1 1 [.int .i64 s] rfl rfl ?c1 ?c2 ?c3 ?c4 ?c5 ?_)
      case c1 => exact (cell_one_new _ _ _)
      case c2 => intro u hu; simp at hu; subst hu; rfl
      case c3 => unfold maxLen; omega
      case c4 => omega
      case c5 => simp; omega
      intro v1 w1 hown1 hg1 _
      obtain ⟨hown2, hbr2⟩ := own_step hbr hsz hown hown1 hg1
      clear hown1 hg1 hown
      go_wp2
      go_roundw
      case rel => exact ⟨k + 1, _, by omega, by go_num, hown2, (by show _ = _; rw [hxs.out]; simp [List.replicate_succ']), hbr2⟩
      case measure => simp [intOf]; omega
    · have : k = n := by omega
      subst this
      go_wp2
      go_ret
      rw [← hxs.out]
      exact Built.of_own hown hbr
end Go.Proofs.YtodjdfpealmjeaaDoor
