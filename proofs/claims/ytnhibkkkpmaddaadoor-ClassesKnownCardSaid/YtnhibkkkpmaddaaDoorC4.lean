/-
  Contracts: lists of pairs; the reference's Close and Join.
-/
import Derived.Test.YtnhibkkkpmaddaaDoorC3
namespace Go.Proofs.YtnhibkkkpmaddaaDoor
open Go.RowKit

/-- A slice value over address A reads as the list ps of pairs. -/
def RdP (w : World) (A : Option Addr) (ps : List (Int × Int)) : Prop :=
  0 < ps.length → ∃ b off, A = some ⟨b, off, none⟩ ∧ b < w.heap.size ∧ ∀ k, k < ps.length → w.cell? ⟨b, off + k * 2, none⟩ = some (.int .i64 (ps[k]?.getD (0, 0)).1) ∧ w.cell? ⟨b, off + k * 2 + 1, none⟩ = some (.int .i64 (ps[k]?.getD (0, 0)).2)
section
variable {w w' : World} {A : Option Addr} {ps : List (Int × Int)}
theorem RdP.nil_ : RdP w A [] := fun h => absurd h (by simp)
theorem RdP.keep (h : RdP w A ps) (hs : w.heap.size ≤ w'.heap.size) (hk : ∀ b o, b < w.heap.size → w'.cell? ⟨b, o, none⟩ = w.cell? ⟨b, o, none⟩) : RdP w' A ps := fun hp => by
  obtain ⟨b, off, e, hb, hc⟩ := h hp
  exact ⟨b, off, e, by omega, fun k hk' => ⟨(hk _ _ hb).trans (hc k hk').1, (hk _ _ hb).trans (hc k hk').2⟩⟩
theorem RdP.below (h : RdP w A ps) (hb : Below w.heap.size w w') : RdP w' A ps := h.keep hb.size (bcell hb).1
theorem RdP.opn (h : RdP w A ps) (hp : 0 < ps.length) : ∃ b off, A = some ⟨b, off, none⟩ := by
  obtain ⟨b, off, e, _, _⟩ := h hp
  exact ⟨b, off, e⟩
theorem RdP.cl {b off : Nat} (h : RdP w (some ⟨b, off, none⟩) ps) {k : Nat} (hk : k < ps.length) : ∃ x y, b < w.heap.size ∧ w.cell? ⟨b, off + k * 2, none⟩ = some (.int .i64 x) ∧ w.cell? ⟨b, off + k * 2 + 1, none⟩ = some (.int .i64 y) ∧ Hid (ps[k]? = some (x, y)) := by
  obtain ⟨b', off', e, hb, hc⟩ := h (by omega)
  injection e with e
  injection e with e1 e2
  subst e1 e2
  refine ⟨_, _, hb, (hc k hk).1, (hc k hk).2, ?_⟩
  rw [Hid, List.getElem?_eq_getElem hk]
  rfl
end
/-- Pairs of places. -/
def natP (ps : List (Int × Int)) : List (Nat × Nat) := ps.map fun x => (x.1.toNat, x.2.toNat)
def InP (n : Nat) (ps : List (Int × Int)) : Prop := ∀ x ∈ ps, 0 ≤ x.1 ∧ x.1 < n ∧ 0 ≤ x.2 ∧ x.2 < n
theorem InP.at_ {n k : Nat} {ps : List (Int × Int)} {x y : Int} (h : InP n ps) (hk : ps[k]? = some (x, y)) : ∃ i j : Nat, x = i ∧ y = j ∧ i < n ∧ j < n ∧ (natP ps)[k]? = some (i, j) := by
  have := h _ (List.mem_of_getElem? hk)
  refine ⟨x.toNat, y.toNat, by omega, by omega, by omega, by omega, ?_⟩
  simp [natP, hk]
theorem natP_len (ps : List (Int × Int)) : (natP ps).length = ps.length := by simp [natP]
theorem InP.rng {n : Nat} {ps : List (Int × Int)} (h : InP n ps) : M.Rng n (natP ps) := by
  intro x hx
  obtain ⟨y, hy, rfl⟩ := List.mem_map.1 hx
  have := h y hy
  simp only
  omega

section
variable {w : World} {B g n c : Nat} {xs : List Int}
theorem own_len {v : Value} (h : w.ownsRow B 3 1 v n (ints xs)) : xs.length = n := by have := h.1; rw [ints_len] at this; omega
theorem own_cl (h : w.ownsRow B 3 1 (.slice (some ⟨g, 0, none⟩) n c) n (ints xs)) {k : Nat} (hk : k < n) : ∃ z, w.cell? ⟨g, k, none⟩ = some (.int .i64 z) ∧ w.frozen? ⟨g, k, none⟩ = false ∧ Hid (M.gz xs k = z) := by
  refine ⟨M.gz xs k, ?_, h.frozenAt k, rfl⟩
  rw [h.cellAt k (by omega)]
  exact ints_at (by rw [own_len h]; exact hk)
theorem own_set (h : w.ownsRow B 3 1 (.slice (some ⟨g, 0, none⟩) n c) n (ints xs)) (k : Nat) (z : Int) : (w.setCell ⟨g, k, none⟩ (.int .i64 z)).ownsRow B 3 1 (.slice (some ⟨g, 0, none⟩) n c) n (ints (xs.set k z)) := by
  have := h.stored k (.int .i64 z)
  have e : ints (xs.set k z) = (ints xs).set k (.int .i64 z) := by simp [ints, List.map_set]
  rw [e]
  exact this.1
theorem own_pos {A : Option Addr} (h : w.ownsRow B 3 1 (.slice A n c) n (ints xs)) (hn : 0 < n) : ∃ g, A = some ⟨g, 0, none⟩ ∧ B ≤ g ∧ g < w.heap.size := by
  obtain ⟨g, cap, e, hb, hl⟩ := h.form hn
  injection e with e
  exact ⟨g, e, hb, hl⟩
end

set_option maxRecDepth 100000 in
set_option maxHeartbeats 1000000 in
theorem rclose_any (A : Option Addr) (c n : Nat) (ps : List (Int × Int)) (w : World) (h : RdP w A ps) (hn : n ≤ 256) (hm : ps.length ≤ 1000000) (hi : InP n ps) :
    Calls Tryd.prog 24 #[.int .i64 n, .slice A ps.length c] w (Built w (M.close n (natP ps))) := by
  have HI := Lib.hid hi
  clear hi
  obtain ⟨i0, hi0, hz0, hz1, hz2⟩ := info_parts int_info
  go_enter Tryd.func24, Tryd.ntmps24
  go_wp2
  go_loopw [5, 6] (fun v i wr => ∃ (k : Nat) (xs : List Int) (A2 : Option Addr) (c2 : Nat), k ≤ n ∧ i = .int .i64 k ∧ v = .slice A2 k c2 ∧ wr.ownsRow w.heap.size 3 1 (.slice A2 k c2) k (ints xs) ∧ Hid (xs = M.iota k) ∧ Below w.heap.size w wr) (fun _ i _ => n - (intOf i).toNat)
  case atStart => exact ⟨0, [], none, 0, Nat.zero_le _, rfl, rfl, World.ownsRow_nil w _ _ _, rfl, Below.refl _ _⟩
  case round =>
    obtain ⟨k, xs, A2, c2, hk, rfl, rfl, hown, hxs, hbr⟩ := hrel
    have hsz := hbr.size
    by_cases hlt : k < n
    · go_wp2_with (at_builtin; refine wpList_append_own _ rfl _ _ 22 rfl w.heap.size 3 i0 (.int .i64 0) 1 8 Tryd.underlying22 hi0 hz0 hz1 hz2 rfl (by decide) _ _ _ rfl (hown.alloc _) ⟨wr.heap.size, 0, none⟩ 1 1 [.int .i64 k] rfl rfl ?c1 ?c2 ?c3 ?c4 ?c5 ?_)
      case c1 => exact (cell_one_new _ _ _)
      case c2 => intro u hu; simp at hu; subst hu; rfl
      case c3 => unfold maxLen; omega
      case c4 => omega
      case c5 => simp; omega
      intro v1 w1 hown1 hg1 _
      obtain ⟨hown2, hbr2⟩ := own_step hbr hsz hown hown1 hg1
      obtain ⟨A3, c3, rfl, _, _⟩ := own_form hown2
      clear hown1 hg1 hown
      go_wp2
      go_roundw
      case rel => exact ⟨k + 1, _, A3, c3, by omega, by go_num, rfl, hown2, by rw [Hid, M.iota_snoc, hxs.out], hbr2⟩
      case measure => simp [intOf] <;> omega
    · have : k = n := by omega
      subst this
      have hx0 : Hid (xs = M.closeR k ((natP ps).take 0)) := by rw [Hid, List.take_zero, M.closeR_nil]; exact hxs.out
      clear hxs hsz
      go_wp2
      go_loopw [7] (fun i wq => ∃ (t : Nat) (xs : List Int), t ≤ ps.length ∧ i = .int .i64 t ∧ wq.ownsRow w.heap.size 3 1 (.slice A2 k c2) k (ints xs) ∧ Hid (xs = M.closeR k ((natP ps).take t)) ∧ Below w.heap.size w wq) (fun i _ => ps.length - (intOf i).toNat)
      case atStart => exact ⟨0, xs, Nat.zero_le _, rfl, hown, hx0, hbr⟩
      case round =>
        clear hown hbr hx0
        obtain ⟨t, xs, ht, rfl, hown, hxs, hbr⟩ := hrel
        by_cases htl : t < ps.length
        · obtain ⟨b, off, rfl⟩ := h.opn (by omega)
          obtain ⟨x, y, hb, hc1, hc2, hxy⟩ := (h.below hbr).cl htl
          obtain ⟨i, j, rfl, rfl, hi, hj, hij⟩ := HI.out.at_ hxy.out
          obtain ⟨g, rfl, hgB, hgl⟩ := own_pos hown (by omega)
          obtain ⟨u, hcu, _, hu⟩ := own_cl hown hi
          obtain ⟨v, hcv, _, hv⟩ := own_cl hown hj
          have HJ := Lib.hid hij
          have hl := own_len hown
          clear hij hxy
          go_wp2
          go_quiet (fail)
          go_wp2
          go_loopw [10] (fun i' wq => ∃ (s : Nat) (ys : List Int), s ≤ k ∧ i' = .int .i64 s ∧ wq.ownsRow w.heap.size 3 1 (.slice (some ⟨g, 0, none⟩) k c2) k (ints ys) ∧ Hid (ys = M.insN xs i j s) ∧ Below w.heap.size w wq) (fun i' _ => k - (intOf i').toNat)
          case atStart => exact ⟨0, xs, Nat.zero_le _, rfl, hown, (M.insN_zero _ _ _).symm, below_drewN' hbr _⟩
          case round =>
            clear hcu hcv hown hbr hb hc1 hc2
            obtain ⟨s, ys, hs, rfl, hown, hys, hbr⟩ := hrel
            by_cases hsk : s < k
            · obtain ⟨z, hcz, hfz, hz⟩ := own_cl hown hsk
              have hz2 : M.gz xs s = z := by rw [← hz.out, hys.out, M.insN_at (by omega)]
              by_cases hzv : z = v
              · subst hzv
                have hys' : Hid (ys.set s u = M.insN xs i j (s + 1)) := by
                  rw [Hid, hys.out, ← M.insN_hit (by omega) (by rw [hz2, hv.out]), hu.out]
                clear hys hz hz2
                go_wp2
                go_roundw
                case rel => exact ⟨s + 1, _, by omega, by go_num, own_set hown s u, hys', hbr.setCell hgB _⟩
                case measure => simp [intOf] <;> omega
              · have hys' : Hid (ys = M.insN xs i j (s + 1)) := by
                  rw [Hid, ← M.insN_miss (by omega) (by rw [hz2, hv.out]; exact hzv)]
                  exact hys.out
                clear hys hz hz2
                go_wp2
                go_roundw
                case rel => exact ⟨s + 1, _, by omega, by go_num, hown, hys', hbr⟩
                case measure => simp [intOf] <;> omega
            · have : s = k := by omega
              subst this
              have hxs' : Hid (ys = M.closeR s ((natP ps).take (t + 1))) := by
                rw [Hid, M.closeR_step HJ.out, ← hxs.out, hys.out]
                have := M.insN_done xs i j
                rw [hl] at this
                exact this
              clear hys hxs
              go_wp2
              go_roundw
              case rel => exact ⟨t + 1, ys, by omega, by go_num, hown, hxs', hbr⟩
              case measure => simp [intOf] <;> omega
        · have : t = ps.length := by omega
          subst this
          have hx : xs = M.closeR k (natP ps) := by rw [hxs.out, List.take_of_length_le (by rw [natP_len]; omega)]
          have hc := rof_at A2 c2 k xs _ (Rd.of_own hown) (own_len hown) (by omega)
          rw [hx] at hc
          have hc : Calls Tryd.prog 21 #[.slice A2 k c2] _ (Built _ (M.close k (natP ps))) := hc
          go_wp2_with fail
          refine hc.mono ?_
          rintro e w1 ⟨A3, c3, rfl, hr3, hc3, hb3⟩
          go_wp2
          go_ret
          exact ⟨A3, c3, rfl, hr3, hc3, below_next hbr hb3⟩
end Go.Proofs.YtnhibkkkpmaddaaDoor
