/-
  Several texts in one: SMc1, SMcR, SMc2, SMcS, SMc3. No statement is proved here.
-/
import Derived.Test.YtgafpmgdpigliaaProg
import Derived.Test.YtgafpmgdpigliaaBaZ
import Derived.Outline
import Derived.Deep.LoopGhost
import Derived.Deep.QuietTactic
import Derived.BigQuiet
import Derived.Maps.AppendAt
import Derived.RegionTactic
import Derived.Handy
namespace Go.Proofs.Ytgafpmgdpigliaa
open Go.RowKit

set_option maxHeartbeats 400000 in
theorem check_loop (A : Option Addr) (c : Nat) (zs : List Int) (n : Int) (w : World) (h : Rd w A zs) (h1 : n ≤ 16) (h2 : (zs.length : Int) ≤ 256) (h3 : 1 ≤ n) :
    Calls Try.prog 130 #[.slice A zs.length c, .int .i64 n] w fun e w' => e = .returned (.int .i64 (M.badI n zs)) ∧ Below w.heap.size w w' := by
  go_enter Try.func130, Try.ntmps130
  go_wp2
  go_loop [18] (fun i => ∃ k : Nat, k ≤ zs.length ∧ i = .int .i64 k ∧ Hid ((zs.take k).any (M.badB n) = false)) (fun i => zs.length - (intOf i).toNat)
  case atStart => exact ⟨0, Nat.zero_le _, rfl, by simp [Hid]⟩
  case round =>
    obtain ⟨k, hk, rfl, hn⟩ := hrel
    by_cases hlt : k < zs.length
    · obtain ⟨b, off, z, rfl, hb, hc, hz⟩ := h.at_ hlt
      by_cases hbad : M.badB n z = true
      · have hfin : Hid (M.badI n zs = 1) := M.badI_hit hlt (by rw [hz.out]; exact hbad)
        rcases M.badB_true hbad with hz | hz
        · go_wp2
          go_ret
          exact ⟨ret_int hfin.out.symm, Below.refl _ _⟩
        · by_cases hz2 : z < 0
          all_goals
            go_wp2
            go_ret
            exact ⟨ret_int hfin.out.symm, Below.refl _ _⟩
      · obtain ⟨hz1, hz2⟩ := M.badB_false hbad
        have hn' : Hid ((zs.take (k + 1)).any (M.badB n) = false) := M.any_snoc hlt hn.out (by rw [hz.out]; simpa using hbad)
        clear hbad
        go_wp2
        go_round
        case rel => exact ⟨k + 1, by omega, by go_num, hn'⟩
        case measure => simp [intOf]; omega
    · go_wp2
      go_ret
      have : zs.take k = zs := List.take_of_length_le (by omega)
      have hn := hn.out
      rw [this] at hn
      exact ⟨ret_int (M.badI_clean hn).symm, Below.refl _ _⟩
theorem check_any (A : Option Addr) (c : Nat) (zs : List Int) (n : Int) (w : World) (h : Rd w A zs) :
    Calls Try.prog 130 #[.slice A zs.length c, .int .i64 n] w fun e w' => e = .returned (.int .i64 (M.check zs n)) ∧ Below w.heap.size w w' := by
  by_cases h1 : 16 < n
  · have hf : Hid (M.check zs n = 3) := M.check_limit (.inl h1)
    go_enter Try.func130, Try.ntmps130
    go_wp2
    go_ret
    exact ⟨ret_int hf.out.symm, Below.refl _ _⟩
  · by_cases h2 : 256 < zs.length
    · have hf : Hid (M.check zs n = 3) := M.check_limit (.inr h2)
      go_enter Try.func130, Try.ntmps130
      go_wp2
      go_ret
      exact ⟨ret_int hf.out.symm, Below.refl _ _⟩
    · by_cases h3 : n < 1
      · have hf : Hid (M.check zs n = 1) := M.check_arg (by omega) h3
        go_enter Try.func130, Try.ntmps130
        go_wp2
        go_ret
        exact ⟨ret_int hf.out.symm, Below.refl _ _⟩
      · rw [M.check_in (by omega) (by omega) (by omega)]
        exact check_loop A c zs n w h (by omega) (by omega) (by omega)
set_option maxHeartbeats 400000 in
theorem rcmp_loop (A B : Option Addr) (c d : Nat) (x y : List Int) (w : World) (hx : Rd w A x) (hy : Rd w B y) (h1 : x.length = y.length) (hm : x.length ≤ 9223372036854775807) :
    Calls Try.prog 76 #[.slice A x.length c, .slice B y.length d] w fun e w' => e = .returned (.int .i64 (M.cmp x y)) ∧ Below w.heap.size w w' := by
  have H1 := Lib.hid h1
  have h2 : ¬ (x.length : Int) < y.length := by omega
  have h3 : ¬ (y.length : Int) < x.length := by omega
  clear h1
  go_enter Try.func76, Try.ntmps76
  go_wp2
  go_loopw [5] (fun i wr => ∃ k : Nat, k ≤ x.length ∧ i = .int .i64 k ∧ Hid (x.take k = y.take k) ∧ Below w.heap.size w wr) (fun i _ => x.length - (intOf i).toNat)
  case atStart => exact ⟨0, Nat.zero_le _, rfl, by simp [Hid], Below.refl _ _⟩
  case round =>
    obtain ⟨k, hk, rfl, hn, hbr⟩ := hrel
    by_cases hlt : k < x.length
    · obtain ⟨b, off, z, rfl, hb, hc, hz⟩ := (hx.below hbr).at_ hlt
      obtain ⟨b2, off2, z2, rfl, hb2, hc2, hz2⟩ := (hy.below hbr).at_ (k := k) (by have := H1.out; omega)
      have hk2 : (k : Int) < y.length := by have := H1.out; omega
      rcases Int.lt_trichotomy z z2 with hzz | hzz | hzz
      · have hfin : Hid (M.cmp x y = -1) := M.cmp_lt H1.out hlt hn.out (by rw [hz.out, hz2.out]; exact hzz)
        go_wp2
        go_quiet (fail)
        go_wp2
        go_ret
        exact ⟨ret_int hfin.out.symm, below_drewN' hbr _⟩
      · subst hzz
        have hn' : Hid (x.take (k + 1) = y.take (k + 1)) := M.take_snoc_eq hlt (by omega) hn.out (by rw [hz.out, hz2.out])
        go_wp2
        go_quiet (fail)
        go_wp2
        go_quiet (fail)
        go_wp2
        go_roundw
        case rel => exact ⟨k + 1, by omega, by go_num, hn', below_drewN' hbr _⟩
        case measure => simp [intOf]; omega
      · have hfin : Hid (M.cmp x y = 1) := M.cmp_gt H1.out hlt hn.out (by rw [hz.out, hz2.out]; exact hzz)
        go_wp2
        go_quiet (fail)
        go_wp2
        go_quiet (fail)
        go_wp2
        go_ret
        exact ⟨ret_int hfin.out.symm, below_drewN' (below_drewN' hbr _) _⟩
    · have hfin : Hid (M.cmp x y = 0) := M.cmp_end (by omega) (by have := H1.out; omega) hn.out
      go_wp2
      go_ret
      exact ⟨ret_int hfin.out.symm, hbr⟩
theorem rcmp_any (A B : Option Addr) (c d : Nat) (x y : List Int) (w : World) (hx : Rd w A x) (hy : Rd w B y) (hm : x.length ≤ 9223372036854775807) :
    Calls Try.prog 76 #[.slice A x.length c, .slice B y.length d] w fun e w' => e = .returned (.int .i64 (M.cmp x y)) ∧ Below w.heap.size w w' := by
  rcases Nat.lt_trichotomy x.length y.length with h | h | h
  · have hf : Hid (M.cmp x y = -1) := M.cmp_short h
    go_enter Try.func76, Try.ntmps76
    go_wp2
    go_ret
    exact ⟨ret_int hf.out.symm, Below.refl _ _⟩
  · exact rcmp_loop A B c d x y w hx hy h hm
  · have hf : Hid (M.cmp x y = 1) := M.cmp_long h
    go_enter Try.func76, Try.ntmps76
    go_wp2
    go_ret
    exact ⟨ret_int hf.out.symm, Below.refl _ _⟩
theorem same_any (A B : Option Addr) (c d : Nat) (x y : List Int) (w : World) (hx : Rd w A x) (hy : Rd w B y) (hm : x.length ≤ 9223372036854775807) :
    Calls Try.prog 46 #[.slice A x.length c, .slice B y.length d] w fun e w' => e = .returned (.bool (M.same x y)) ∧ Below w.heap.size w w' := by
  go_enter Try.func46, Try.ntmps46
  go_wp2_with fail
  refine (rcmp_any _ _ _ _ _ _ _ hx hy hm).mono ?_
  rintro e w1 ⟨rfl, hb1⟩
  go_wp2
  go_ret
  exact ⟨ret_bool M.same_def, hb1⟩
theorem int_info : (Try.prog.info? 3).map (fun i => (i.zero, i.size, i.bytes)) = some (some (.int .i64 0), 1, 8) := by kernel_rfl
/-- What a function that builds a list hands back. -/
def Built (w : World) (zs : List Int) (e : Ending) (w' : World) : Prop := ∃ A c, e = .returned (.slice A zs.length c) ∧ Rd w' A zs ∧ zs.length ≤ c ∧ Below w.heap.size w w'
theorem Built.of_own {w w' : World} {v : Value} {base n : Nat} {zs : List Int} (h : w'.ownsRow base 3 1 v n (ints zs)) (hb : Below w.heap.size w w') : Built w zs (.returned v) w' := by
  have hn : zs.length = n := by have := h.1; rw [ints_len] at this; omega
  subst hn
  rcases h.2 with ⟨rfl, h0⟩ | ⟨g, cap, cur, rfl, _, _, hc, _⟩
  · exact ⟨none, 0, by rw [h0], fun hp => absurd hp (by omega), by omega, hb⟩
  · exact ⟨_, _, rfl, Rd.of_own h, hc, hb⟩
theorem own_step {w wr w1 : World} {B : Nat} {v v1 : Value} {k : Nat} {xs : List Int} {z : Int} {o : Obj} (hbr : Below B w wr) (hB : B ≤ wr.heap.size) (hown : wr.ownsRow B 3 1 v k (ints xs))
    (h1 : w1.ownsRow B 3 1 v1 (k + 1) (ints xs ++ [.int .i64 z])) (hg : (wr.alloc o).grownBy w1 v.ownBlock) :
    w1.ownsRow B 3 1 v1 (k + 1) (ints (xs ++ [z])) ∧ Below B w w1 :=
  ⟨by rw [← ints_snoc]; exact h1, (hbr.alloc hB o).grown hg (by simp; omega) (fun j hj => (hown.lt j hj).1)⟩
set_option maxRecDepth 100000 in
set_option maxHeartbeats 1000000 in
theorem of_any (A : Option Addr) (c : Nat) (zs : List Int) (n : Int) (w : World) (h : Rd8 w A zs) (h1 : 1 ≤ n) (h2 : n ≤ 16) (hm : zs.length ≤ 9223372036854775807) :
    Calls Try.prog 17 #[.agg #[.slice A zs.length c], .int .i64 n] w (Built w (M.sym n zs)) := by
  obtain ⟨i0, hi0, hz0, hz1, hz2⟩ := info_parts int_info
  go_enter Try.func17, Try.ntmps17
  go_wp2
  go_loopw [5, 6] (fun v i wr => ∃ (k : Nat) (xs : List Int), k ≤ zs.length ∧ k ≤ 12 ∧ i = .int .i64 k ∧ wr.ownsRow (w.heap.size + 1) 3 1 v k (ints xs) ∧ Hid (xs = (zs.take k).map (· % n)) ∧ Below (w.heap.size + 1) (w.alloc (.cells #[.slice A zs.length c] 48)) wr) (fun _ i _ => 12 - (intOf i).toNat)
  case atStart => exact ⟨0, [], Nat.zero_le _, by omega, rfl, World.ownsRow_nil _ _ _ _, rfl, Below.refl _ _⟩
  case round =>
    obtain ⟨k, xs, hk, hk2, rfl, hown, hxs, hbr⟩ := hrel
    have hsz := hbr.size
    have hcell : wr.cell? ⟨w.heap.size, 0, none⟩ = some (.slice A zs.length c) := by
      rw [hbr.cell (p := ⟨w.heap.size, 0, none⟩) (by simp), World.cell?_alloc_at _ _ _ _ rfl]; rfl
    by_cases hlt : k < zs.length ∧ k < 12
    · obtain ⟨hlt1, hlt2⟩ := hlt
      have hr : Rd8 wr A zs := h.keep (by have := hsz; simp at this; omega) (fun b o hb => by
        rw [hbr.cell (p := ⟨b, o, none⟩) (by show b < _; omega), World.cell?_alloc_past _ _ _ hb])
      obtain ⟨b, off, z, rfl, hb, hc, hq0, hq1, hz⟩ := hr.at_ hlt1
      have hn0 : (n == 0) = false := by simp; omega
      have hsz2 : w.heap.size + 1 ≤ wr.heap.size := by simpa using hsz
      have hmod1 : 0 ≤ z % n := Int.emod_nonneg _ (by omega)
      have hmod2 : z % n < n := Int.emod_lt_of_pos _ (by omega)
      go_wp2_with (at_builtin; refine wpList_append_own _ rfl _ _ 30 rfl (w.heap.size + 1) 3 i0 (.int .i64 0) 1 8 Try.underlying30 hi0 hz0 hz1 hz2 rfl (by decide) _ _ _ rfl (hown.alloc _) ⟨wr.heap.size, 0, none⟩ 1 1 [.int .i64 (z % n)] rfl rfl ?c1 ?c2 ?c3 ?c4 ?c5 ?_)
      case c1 => exact (cell_one_new _ _ _)
      case c2 => intro u hu; simp at hu; subst hu; rfl
      case c3 => unfold maxLen; omega
      case c4 => omega
      case c5 => simp; omega
      intro v1 w1 hown1 hg1 _
      obtain ⟨hown2, hbr2⟩ := own_step hbr hsz2 hown hown1 hg1
      clear hown1 hg1 hown
      go_wp2
      go_roundw
      case rel => exact ⟨k + 1, _, by omega, by omega, by go_num, hown2, (by show _ = _; rw [hxs.out, take_snoc' zs k hlt1, hz.out]; simp), hbr2⟩
      case measure => simp [intOf]; omega
    · have hfin : Hid (xs = M.sym n zs) := by
        show _ = (zs.take 12).map (· % n)
        rw [hxs.out]
        rcases Nat.lt_or_ge k 12 with h12 | h12
        · rw [List.take_of_length_le (show zs.length ≤ k by omega), List.take_of_length_le (show zs.length ≤ 12 by omega)]
        · rw [show k = 12 by omega]
      have hbw : Below w.heap.size w wr := ((Below.refl _ _).alloc (Nat.le_refl _) _).trans (hbr.mono (by omega))
      clear hxs
      by_cases hlt1 : k < zs.length
      · have h12 : ¬ (k : Int) < 12 := by omega
        go_wp2
        go_ret
        rw [← hfin.out]
        exact Built.of_own hown hbw
      · go_wp2
        go_ret
        rw [← hfin.out]
        exact Built.of_own hown hbw
end Go.Proofs.Ytgafpmgdpigliaa

namespace Go.Proofs.Ytgafpmgdpigliaa.Mc

/-- An edge leads from a state to a state. -/
def Edge (m : Ma) (s t : Nat) : Prop := ∃ (row : List Ed) (i : Nat) (x : Ed), m.r[s]? = some row ∧ row[i]? = some x ∧ 0 ≤ x.1 ∧ x.1.toNat = t
theorem Rch.edge {m : Ma} {a s t : Nat} (h : Rch m a s) (e : Edge m s t) : Rch m a t := by
  obtain ⟨row, i, x, h1, h2, h3, rfl⟩ := e
  exact .step h h1 h2 h3
theorem Edge.lt {m : Ma} (v : Val m) {s t : Nat} (e : Edge m s t) : s < m.r.length ∧ t < m.r.length := by
  obtain ⟨row, i, x, h1, h2, h3, rfl⟩ := e
  have hs : s < m.r.length := (List.getElem?_eq_some_iff.1 h1).1
  rcases v.ok row (List.mem_of_getElem? h1) x (List.mem_of_getElem? h2) with ⟨a, _⟩ | ⟨_, b, _⟩
  · omega
  · exact ⟨hs, by omega⟩
theorem Rch.lt {m : Ma} (v : Val m) {a s : Nat} (h : Rch m a s) (ha : a < m.r.length) : s < m.r.length := by
  cases h with
  | here => exact ha
  | step h hs hi hx => exact (Edge.lt v ⟨_, _, _, hs, hi, hx, rfl⟩).2
abbrev T (B : List Bool) (s : Nat) : Prop := B[s]? = some true
/-- Closed: what an edge leads to from what is marked is marked. -/
def Cl (m : Ma) (B : List Bool) : Prop := ∀ s t, Edge m s t → T B s → T B t
theorem count_le' : ∀ (B B' : List Bool), B.length = B'.length → (∀ k, T B k → T B' k) → B.count true ≤ B'.count true
  | [], [], _, _ => Nat.le_refl _
  | a :: B, b :: B', hl, h => by
    have ih := count_le' B B' (by simpa using hl) (fun k hk => by have := h (k + 1) (by simpa [T] using hk); simpa [T] using this)
    have h0 := h 0
    cases a <;> cases b <;> simp_all [T] <;> omega
theorem count_lt' : ∀ (B B' : List Bool) (k : Nat), B.length = B'.length → (∀ k, T B k → T B' k) → B[k]? = some false → T B' k → B.count true + 1 ≤ B'.count true
  | [], _, _, _, _, h, _ => by simp at h
  | a :: B, [], _, hl, _, _, _ => by simp at hl
  | a :: B, b :: B', 0, hl, h, h1, h2 => by
    have ih := count_le' B B' (by simpa using hl) (fun k hk => by have := h (k + 1) (by simpa [T] using hk); simpa [T] using this)
    simp [T] at h1 h2
    subst h1 h2
    simp
    omega
  | a :: B, b :: B', k + 1, hl, h, h1, h2 => by
    have ih := count_lt' B B' k (by simpa using hl) (fun k hk => by have := h (k + 1) (by simpa [T] using hk); simpa [T] using this) (by simpa using h1) (by simpa [T] using h2)
    have h0 := h 0
    cases a <;> cases b <;> simp_all [T] <;> omega
/-- What is known after k rounds. -/
structure RS (m : Ma) (a k : Nat) (B : List Bool) : Prop where
  len : B.length = m.r.length
  at_ : T B a
  snd : ∀ s, T B s → Rch m a s
  cls : Cl m B ∨ k + 1 ≤ B.count true
theorem RS.start {m : Ma} {a : Nat} (ha : a < m.r.length) : RS m a 0 ((List.replicate m.r.length false).set a true) := by
  have hT : ∀ s, T ((List.replicate m.r.length false).set a true) s → s = a := fun s h => by
    unfold T at h
    rw [List.getElem?_set] at h
    split at h
    · rename_i e; exact e.symm
    · simp [List.getElem?_replicate] at h
  have h0 : T ((List.replicate m.r.length false).set a true) a := by
    unfold T
    rw [List.getElem?_set]
    simp [ha]
  refine ⟨by simp, h0, fun s h => by rw [hT s h]; exact .here, Or.inr ?_⟩
  have := count_lt' (List.replicate m.r.length false) _ a (by simp) (fun k h => by simp [T, List.getElem?_replicate] at h) (by simp [ha]) h0
  omega
theorem RS.sub {m : Ma} {a : Nat} {B : List Bool} (h : Cl m B) (ha : T B a) {s : Nat} (hr : Rch m a s) : T B s := by
  induction hr with
  | here => exact ha
  | step _ hs hi hx ih => exact h _ _ ⟨_, _, _, hs, hi, hx, rfl⟩ ih
theorem RS.round {m : Ma} (v : Val m) {a k : Nat} {B B' : List Bool} (h : RS m a k B) (hl : B'.length = B.length) (hm : ∀ s, T B s → T B' s) (hs : ∀ s, T B' s → Rch m a s) (hp : ∀ s t, Edge m s t → T B s → T B' t) : RS m a (k + 1) B' := by
  refine ⟨hl.trans h.len, hm a h.at_, hs, ?_⟩
  by_cases hc : Cl m B
  · exact Or.inl fun s t e hT => hm t (hc s t e (RS.sub hc h.at_ (hs s hT)))
  · refine Or.inr ?_
    have h1 := h.cls.resolve_left hc
    simp only [Cl, Classical.not_forall] at hc
    obtain ⟨s, t, e, hT, hn⟩ := hc
    have ht : t < B.length := by rw [h.len]; exact (e.lt v).2
    have hf : B[t]? = some false := by
      unfold T at hn
      rw [List.getElem?_eq_getElem ht] at hn ⊢
      cases hb : B[t] with
      | false => rfl
      | true => rw [hb] at hn; exact absurd rfl hn
    have := count_lt' B B' t hl.symm hm hf (hp s t e hT)
    omega
theorem RS.done {m : Ma} {a : Nat} {B : List Bool} (h : RS m a m.r.length B) (s : Nat) : T B s ↔ Rch m a s := by
  refine ⟨h.snd s, fun hr => ?_⟩
  have hc : Cl m B := h.cls.resolve_right fun h1 => by
    have := List.count_le_length (a := true) (l := B)
    rw [h.len] at this
    omega
  exact RS.sub hc h.at_ hr
theorem conn_all {m : Ma} {B : List Bool} (hl : B.length = m.r.length) (h : ∀ s, T B s ↔ Rch m 0 s) : conn m = B.all id := by
  have h1 : B.all id = true ↔ ∀ s, s < m.r.length → Rch m 0 s := by
    rw [List.all_eq_true]
    constructor
    · intro ha s hs
      refine (h s).1 ?_
      have hs' : s < B.length := by omega
      have := ha B[s] (List.getElem_mem hs')
      unfold T
      rw [List.getElem?_eq_getElem hs']
      simpa using this
    · intro ha b hb
      obtain ⟨k, hk, e⟩ := List.mem_iff_getElem.1 hb
      have := (h k).2 (ha k (by omega))
      unfold T at this
      rw [List.getElem?_eq_getElem hk, e] at this
      simpa using this
  rw [Bool.eq_iff_iff, conn_iff]
  exact h1.symm
end Go.Proofs.Ytgafpmgdpigliaa.Mc

namespace Go.Proofs.Ytgafpmgdpigliaa
open Go.RowKit
open Mc (Ed Ma)

/-- A slice value over address A reads as the list ps of edges, or of pairs. -/
def RdP (w : World) (A : Option Addr) (ps : List (Int × Int)) : Prop :=
  0 < ps.length → ∃ b off, A = some ⟨b, off, none⟩ ∧ b < w.heap.size ∧ ∀ k x, ps[k]? = some x → w.cell? ⟨b, off + k * 2, none⟩ = some (.int .i64 x.1) ∧ w.cell? ⟨b, off + k * 2 + 1, none⟩ = some (.int .i64 x.2)
section
variable {w w' : World} {A : Option Addr} {ps : List (Int × Int)}
theorem RdP.nil_ : RdP w A [] := fun h => absurd h (by simp)
theorem RdP.keep (h : RdP w A ps) (hs : w.heap.size ≤ w'.heap.size) (hk : ∀ b o, b < w.heap.size → w'.cell? ⟨b, o, none⟩ = w.cell? ⟨b, o, none⟩) : RdP w' A ps := fun hp => by
  obtain ⟨b, off, e, hb, hc⟩ := h hp
  exact ⟨b, off, e, by omega, fun k x hk' => ⟨(hk _ _ hb).trans (hc k x hk').1, (hk _ _ hb).trans (hc k x hk').2⟩⟩
theorem RdP.below (h : RdP w A ps) (hb : Below w.heap.size w w') : RdP w' A ps := h.keep hb.size (bcell hb).1
theorem RdP.at_ (h : RdP w A ps) {k : Nat} (hk : k < ps.length) : ∃ b off x y, A = some ⟨b, off, none⟩ ∧ b < w.heap.size ∧ w.cell? ⟨b, off + k * 2, none⟩ = some (.int .i64 x) ∧ w.cell? ⟨b, off + k * 2 + 1, none⟩ = some (.int .i64 y) ∧ Hid (ps[k]? = some (x, y)) := by
  obtain ⟨b, off, e, hb, hc⟩ := h (by omega)
  obtain ⟨h1, h2⟩ := hc k _ (List.getElem?_eq_getElem hk)
  exact ⟨b, off, _, _, e, hb, h1, h2, List.getElem?_eq_getElem hk⟩
end
/-- A slice value over address A reads as the list rs of rows. -/
def RdR (w : World) (A : Option Addr) (rs : List (List Ed)) : Prop :=
  0 < rs.length → ∃ b off, A = some ⟨b, off, none⟩ ∧ b < w.heap.size ∧ ∀ k row, rs[k]? = some row → ∃ B c, w.cell? ⟨b, off + k, none⟩ = some (.slice B row.length c) ∧ row.length ≤ c ∧ c ≤ maxLen ∧ (B = none → c = 0) ∧ RdP w B row
section
variable {w w' : World} {A : Option Addr} {rs : List (List Ed)}
theorem RdR.nil_ : RdR w A [] := fun h => absurd h (by simp)
theorem RdR.keep (h : RdR w A rs) (hs : w.heap.size ≤ w'.heap.size) (hk : ∀ b o, b < w.heap.size → w'.cell? ⟨b, o, none⟩ = w.cell? ⟨b, o, none⟩) : RdR w' A rs := fun hp => by
  obtain ⟨b, off, e, hb, hc⟩ := h hp
  refine ⟨b, off, e, by omega, fun k row hk' => ?_⟩
  obtain ⟨B, c, h1, h2, h3, h4, h5⟩ := hc k row hk'
  exact ⟨B, c, (hk _ _ hb).trans h1, h2, h3, h4, h5.keep hs hk⟩
theorem RdR.below (h : RdR w A rs) (hb : Below w.heap.size w w') : RdR w' A rs := h.keep hb.size (bcell hb).1
theorem RdR.at_ (h : RdR w A rs) {k : Nat} (hk : k < rs.length) : ∃ b off B c n row, A = some ⟨b, off, none⟩ ∧ b < w.heap.size ∧ w.cell? ⟨b, off + k, none⟩ = some (.slice B n c) ∧ n ≤ c ∧ c ≤ maxLen ∧ (B = none → c = 0) ∧ RdP w B row ∧ Hid (row.length = n) ∧ Hid (rs[k]? = some row) := by
  obtain ⟨b, off, e, hb, hc⟩ := h (by omega)
  obtain ⟨B, c, h1, h2, h3, h4, h5⟩ := hc k _ (List.getElem?_eq_getElem hk)
  exact ⟨b, off, B, c, _, _, e, hb, h1, h2, h3, h4, h5, rfl, List.getElem?_eq_getElem hk⟩
end
/-- A world in which a machine lies in a box of the call's own. -/
abbrev boxM (w : World) (i o : Int) (A : Option Addr) (n c : Nat) : World := w.alloc (.cells #[.int .i64 i, .int .i64 o, .slice A n c] 24)
section
variable {w wr : World} {i o : Int} {A : Option Addr} {n c : Nat}
theorem box_cells (h : Below (w.heap.size + 1) (boxM w i o A n c) wr) :
    wr.cell? ⟨w.heap.size, 0, none⟩ = some (.int .i64 i) ∧ wr.cell? ⟨w.heap.size, 1, none⟩ = some (.int .i64 o) ∧ wr.cell? ⟨w.heap.size, 2, none⟩ = some (.slice A n c) := by
  refine ⟨?_, ?_, ?_⟩
  · rw [h.cell (p := ⟨w.heap.size, 0, none⟩) (by simp), World.cell?_alloc_at _ _ _ _ rfl]; rfl
  · rw [h.cell (p := ⟨w.heap.size, 1, none⟩) (by simp), World.cell?_alloc_at _ _ _ _ rfl]; rfl
  · rw [h.cell (p := ⟨w.heap.size, 2, none⟩) (by simp), World.cell?_alloc_at _ _ _ _ rfl]; rfl
theorem box_below (h : Below (w.heap.size + 1) (boxM w i o A n c) wr) : Below w.heap.size w wr := ((Below.refl _ _).alloc (Nat.le_refl _) _).trans (h.mono (by omega))
theorem box_size (h : Below (w.heap.size + 1) (boxM w i o A n c) wr) : w.heap.size + 1 ≤ wr.heap.size := by have := h.size; simpa using this
end
end Go.Proofs.Ytgafpmgdpigliaa

namespace Go.Proofs.Ytgafpmgdpigliaa.Mc

/-- In the middle of a round that began with B0. -/
structure Mid (m : Ma) (a : Nat) (B0 B : List Bool) (s j : Nat) : Prop where
  len : B.length = B0.length
  mono : ∀ k, T B0 k → T B k
  snd : ∀ k, T B k → Rch m a k
  prev : ∀ s' t, s' < s → Edge m s' t → T B0 s' → T B t
  cur : ∀ row i x, m.r[s]? = some row → row[i]? = some x → i < j → 0 ≤ x.1 → T B0 s → T B x.1.toNat
theorem Mid.start {m : Ma} {a k : Nat} {B : List Bool} (h : RS m a k B) : Mid m a B B 0 0 :=
  ⟨rfl, fun _ h => h, h.snd, fun _ _ h => absurd h (by omega), fun _ _ _ _ _ h => absurd h (by omega)⟩
theorem T_set {B : List Bool} {t k : Nat} (h : T B k) : T (B.set t true) k := by
  unfold T at h ⊢
  rw [List.getElem?_set]
  split
  · rename_i e
    subst e
    rw [if_pos (List.getElem?_eq_some_iff.1 h).1]
  · exact h
theorem T_new {B : List Bool} {t : Nat} (h : t < B.length) : T (B.set t true) t := by
  unfold T
  rw [List.getElem?_set]
  simp [h]
theorem T_old {B : List Bool} {t k : Nat} (h : T (B.set t true) k) : k = t ∨ T B k := by
  unfold T at h ⊢
  rw [List.getElem?_set] at h
  split at h
  · rename_i e; exact Or.inl e.symm
  · exact Or.inr h
section
variable {m : Ma} {a s j : Nat} {B0 B : List Bool} {row : List Ed} {x : Ed}
theorem Mid.put (h : Mid m a B0 B s j) (hs : T B s) (hr : m.r[s]? = some row) (hx : row[j]? = some x) (h0 : 0 ≤ x.1) (ht : x.1.toNat < B.length) : Mid m a B0 (B.set x.1.toNat true) s (j + 1) := by
  refine ⟨by simp [h.len], fun k hk => T_set (h.mono k hk), fun k hk => ?_, fun s' t h1 h2 h3 => T_set (h.prev s' t h1 h2 h3), fun row' i x' h1 h2 h3 h4 h5 => ?_⟩
  · rcases T_old hk with rfl | hk
    · exact .step (h.snd s hs) hr hx h0
    · exact h.snd k hk
  · rw [hr] at h1
    injection h1 with h1
    subst h1
    by_cases e : i = j
    · subst e
      rw [hx] at h2
      injection h2 with h2
      subst h2
      exact T_new ht
    · exact T_set (h.cur row i x' hr h2 (by omega) h4 h5)
theorem Mid.skip (h : Mid m a B0 B s j) (hr : m.r[s]? = some row) (hx : row[j]? = some x) (hn : ¬ (T B s ∧ 0 ≤ x.1)) : Mid m a B0 B s (j + 1) := by
  refine ⟨h.len, h.mono, h.snd, h.prev, fun row' i x' h1 h2 h3 h4 h5 => ?_⟩
  rw [hr] at h1
  injection h1 with h1
  subst h1
  by_cases e : i = j
  · subst e
    rw [hx] at h2
    injection h2 with h2
    subst h2
    exact absurd ⟨h.mono s h5, h4⟩ hn
  · exact h.cur row i x' hr h2 (by omega) h4 h5
theorem Mid.line (h : Mid m a B0 B s j) (hr : m.r[s]? = some row) (hj : row.length ≤ j) : Mid m a B0 B (s + 1) 0 := by
  refine ⟨h.len, h.mono, h.snd, fun s' t h1 h2 h3 => ?_, fun _ _ _ _ _ h => absurd h (by omega)⟩
  by_cases e : s' = s
  · subst e
    obtain ⟨row', i, x, h4, h5, h6, rfl⟩ := h2
    rw [hr] at h4
    injection h4 with h4
    subst h4
    exact h.cur row i x hr h5 (by have := (List.getElem?_eq_some_iff.1 h5).1; omega) h6 h3
  · exact h.prev s' t (by omega) h2 h3
theorem Mid.done {k : Nat} (h : Mid m a B0 B s 0) (v : Val m) (hR : RS m a k B0) (hs : m.r.length ≤ s) : RS m a (k + 1) B :=
  hR.round v h.len h.mono h.snd (fun s' t e hT => h.prev s' t (by have := (e.lt v).1; omega) e hT)
end
end Go.Proofs.Ytgafpmgdpigliaa.Mc

namespace Go.Proofs.Ytgafpmgdpigliaa
open Go.RowKit
open Mc (Ed Ma)

theorem next_neg (i o s k : Int) (A : Option Addr) (n c : Nat) (w : World) (h : s < 0) :
    Calls Try.prog 60 #[.agg #[.int .i64 i, .int .i64 o, .slice A n c], .int .i64 s, .int .i64 k] w fun e w' => e = .returned (.agg #[.int .i64 (-1), .int .i64 (-1)]) ∧ Below w.heap.size w w' := by
  go_enter Try.func60, Try.ntmps60
  go_wp2
  go_returns
  exact ⟨rfl, ((Below.refl _ _).alloc (Nat.le_refl _) _).alloc (by simp) _⟩
theorem next_at (i o : Int) (s k : Nat) (x y : Int) (row : List Ed) (rs : List (List Ed)) (A : Option Addr) (c : Nat) (w : World) (hr : RdR w A rs) (hs : rs[s]? = some row) (hk : row[k]? = some (x, y)) :
    Calls Try.prog 60 #[.agg #[.int .i64 i, .int .i64 o, .slice A rs.length c], .int .i64 s, .int .i64 k] w fun e w' => e = .returned (.agg #[.int .i64 x, .int .i64 y]) ∧ Below w.heap.size w w' := by
  have hsl : s < rs.length := (List.getElem?_eq_some_iff.1 hs).1
  have hkl : k < row.length := (List.getElem?_eq_some_iff.1 hk).1
  obtain ⟨b, off, B, d, n, row', rfl, hb, hc, _, _, _, hp, hn, hq⟩ := hr.at_ hsl
  have hq := hq.out
  rw [hs] at hq
  injection hq with hq
  subst hq
  have hn := hn.out
  subst hn
  obtain ⟨b2, off2, x', y', rfl, hb2, h1, h2, hq⟩ := hp.at_ hkl
  have hq := hq.out
  rw [hk] at hq
  injection hq with hq
  injection hq with e1 e2
  subst e1 e2
  go_enter Try.func60, Try.ntmps60
  go_wp2
  go_returns
  exact ⟨rfl, ((Below.refl _ _).alloc (Nat.le_refl _) _).alloc (by simp) _⟩
theorem next_any (m : Ma) (s k : Int) (A : Option Addr) (c : Nat) (w : World) (v : Mc.Val m) (hr : RdR w A m.r) (hs : Mc.St m s) (hk : 0 ≤ k ∧ k < m.i) :
    Calls Try.prog 60 #[.agg #[.int .i64 m.i, .int .i64 m.o, .slice A m.r.length c], .int .i64 s, .int .i64 k] w fun e w' => e = .returned (.agg #[.int .i64 (Mc.nx m s k).1, .int .i64 (Mc.nx m s k).2]) ∧ Below w.heap.size w w' := by
  rcases hs with rfl | ⟨h1, h2⟩
  · rw [Mc.nx_neg (by omega)]
    exact next_neg _ _ _ _ _ _ _ _ (by omega)
  · obtain ⟨s, rfl⟩ := Int.eq_ofNat_of_zero_le h1
    obtain ⟨k, rfl⟩ := Int.eq_ofNat_of_zero_le hk.1
    have hl : s < m.r.length := by omega
    have hrow := v.len m.r[s] (List.getElem_mem hl)
    have hil : k < (m.r[s]).length := by omega
    rw [Mc.nx_at (List.getElem?_eq_getElem hl) (List.getElem?_eq_getElem hil)]
    exact next_at m.i m.o s k _ _ _ m.r A c w hr (List.getElem?_eq_getElem hl) (List.getElem?_eq_getElem hil)

set_option maxRecDepth 100000 in
set_option maxHeartbeats 4000000 in
theorem rmcheck_any (m : Ma) (A : Option Addr) (c : Nat) (w : World) (hr : RdR w A m.r) (hl : m.r.length ≤ 1000000) :
    Calls Try.prog 58 #[.agg #[.int .i64 m.i, .int .i64 m.o, .slice A m.r.length c]] w fun e w' => e = .returned (.int .i64 (Mc.chk m)) ∧ Below w.heap.size w w' := by
  obtain ⟨i, o, rs⟩ := m
  simp only at hr hl ⊢
  by_cases h1 : 16 < i
  · have hf : Hid (Mc.chk ⟨i, o, rs⟩ = 3) := Mc.chk_limit (.inl h1)
    go_enter Try.func58, Try.ntmps58
    go_wp2
    go_ret
    exact ⟨ret_int hf.out.symm, (Below.refl _ _).alloc (Nat.le_refl _) _⟩
  by_cases h2 : 16 < o
  · have hf : Hid (Mc.chk ⟨i, o, rs⟩ = 3) := Mc.chk_limit (.inr (.inl h2))
    go_enter Try.func58, Try.ntmps58
    go_wp2
    go_ret
    exact ⟨ret_int hf.out.symm, (Below.refl _ _).alloc (Nat.le_refl _) _⟩
  by_cases h3 : 64 < (rs.length : Int)
  · have hf : Hid (Mc.chk ⟨i, o, rs⟩ = 3) := Mc.chk_limit (.inr (.inr (by simp only; omega)))
    go_enter Try.func58, Try.ntmps58
    go_wp2
    go_ret
    exact ⟨ret_int hf.out.symm, (Below.refl _ _).alloc (Nat.le_refl _) _⟩
  by_cases h4 : i < 1
  · have hf : Hid (Mc.chk ⟨i, o, rs⟩ = 1) := Mc.chk_arg (by simp only; omega) (.inl h4)
    go_enter Try.func58, Try.ntmps58
    go_wp2
    go_ret
    exact ⟨ret_int hf.out.symm, (Below.refl _ _).alloc (Nat.le_refl _) _⟩
  by_cases h5 : o < 1
  · have hf : Hid (Mc.chk ⟨i, o, rs⟩ = 1) := Mc.chk_arg (by simp only; omega) (.inr (.inl h5))
    go_enter Try.func58, Try.ntmps58
    go_wp2
    go_ret
    exact ⟨ret_int hf.out.symm, (Below.refl _ _).alloc (Nat.le_refl _) _⟩
  by_cases h6 : rs = []
  · have hf : Hid (Mc.chk ⟨i, o, rs⟩ = 1) := Mc.chk_arg (by simp only; omega) (.inr (.inr (by simp [h6])))
    have h6' : ((rs.length : Int) == 0) = true := by rw [h6]; rfl
    clear h6
    go_enter Try.func58, Try.ntmps58
    go_wp2
    go_ret
    exact ⟨ret_int hf.out.symm, (Below.refl _ _).alloc (Nat.le_refl _) _⟩
  have h6' : ((rs.length : Int) == 0) = false := by
    rw [beq_eq_false_iff_ne]
    have := List.length_pos_iff.2 h6
    omega
  have hall : Hid (Mc.chk ⟨i, o, rs⟩ = if rs.all (Mc.okR rs.length i o) then 0 else 1) := Mc.chk_in (by simp only; omega) (by simp only; have := List.length_pos_iff.2 h6; omega)
  clear h6
  go_enter Try.func58, Try.ntmps58
  go_wp2
  go_loopw [3] (fun v wr => ∃ k : Nat, k ≤ rs.length ∧ v = .int .i64 k ∧ Hid ((rs.take k).all (Mc.okR rs.length i o) = true) ∧ Below (w.heap.size + 1) (boxM w i o A rs.length c) wr) (fun v _ => rs.length - (intOf v).toNat)
  case atStart => exact ⟨0, Nat.zero_le _, rfl, by simp [Hid], Below.refl _ _⟩
  case round =>
    obtain ⟨k, hk, rfl, hn, hbr⟩ := hrel
    obtain ⟨q0, q1, q2⟩ := box_cells hbr
    have hsz := box_size hbr
    by_cases hlt : k < rs.length
    · obtain ⟨b, off, B, d, n, row, rfl, hb, hcw, _, _, _, hpw, hln, hq⟩ := hr.at_ hlt
      have hc := ((bcell (box_below hbr)).1 b (off + k) hb).trans hcw
      have hbd : Hid (Mc.okR rs.length i o row = false → Mc.chk ⟨i, o, rs⟩ = 1) := fun h => by
        rw [hall.out, Mc.all_hit hq.out h]; rfl
      by_cases hni : (n : Int) = i
      · have hnb : ((n : Int) == i) = true := by rw [hni]; exact beq_self_eq_true _
        have hrow : Hid ((row.length : Int) = i) := by have := hln.out; rw [this]; exact hni
        go_wp2
        go_quiet (fail)
        go_wp2
        obtain ⟨wo, rfl⟩ : ∃ wo : World, wo = wr := ⟨_, rfl⟩
        go_loopw [4] (fun v wr => ∃ j : Nat, j ≤ n ∧ v = .int .i64 j ∧ Hid ((row.take j).all (Mc.okE rs.length o) = true) ∧ Below (w.heap.size + 1) (boxM w i o (some ⟨b, off, none⟩) rs.length c) wr) (fun v _ => n - (intOf v).toNat)
        case atStart => exact ⟨0, Nat.zero_le _, rfl, by simp [Hid], below_drewN' hbr _⟩
        case round =>
          obtain ⟨j, hj, rfl, hnj, hbr2⟩ := hrel
          clear q0 q1 q2 hsz
          obtain ⟨q0, q1, q2⟩ := box_cells hbr2
          have hsz := box_size hbr2
          have hc2 := ((bcell (box_below hbr2)).1 b (off + k) hb).trans hcw
          by_cases hjl : j < n
          · obtain ⟨b2, off2, x, y, rfl, hb2, hx0, hy0, hqe⟩ := hpw.at_ (k := j) (by rw [hln.out]; exact hjl)
            have hx := ((bcell (box_below hbr2)).1 b2 (off2 + j * 2) hb2).trans hx0
            have hy := ((bcell (box_below hbr2)).1 b2 (off2 + j * 2 + 1) hb2).trans hy0
            have hji : (j : Int) < i := by omega
            have hout : Hid (Mc.okE rs.length o (x, y) = false → Mc.chk ⟨i, o, rs⟩ = 1) := fun h => hbd.out (Mc.okR_bad hqe.out h)
            have hin : Hid (Mc.okE rs.length o (x, y) = true → (row.take (j + 1)).all (Mc.okE rs.length o) = true) := fun h => Mc.all_snoc hqe.out hnj.out h
            clear hbd hall hnj
            have hb3 : Below (w.heap.size + 1) (boxM w i o (some ⟨b, off, none⟩) rs.length c) (wr.alloc (.cells #[.int .i64 x, .int .i64 y] 27)) := hbr2.alloc hsz _
            obtain ⟨p0, p1, p2⟩ := box_cells hb3
            by_cases e1 : x = -1
            · by_cases e2 : y = -1
              · have hgo := Lib.hid (hin.out (Mc.okE_none e1 e2))
                subst e1 e2
                go_wp2
                go_roundw
                case rel => exact ⟨j + 1, by omega, by go_num, hgo, hb3⟩
                case measure => simp [intOf]; omega
              · have e2' : (y == -1) = false := by rw [beq_eq_false_iff_ne]; exact e2
                have hf := Lib.hid (hout.out (Mc.okE_out (fun h => e2 h.2) (.inl (by omega))))
                subst e1
                go_wp2
                go_ret
                exact ⟨ret_int hf.out.symm, box_below hb3⟩
            · have e1' : (x == -1) = false := by rw [beq_eq_false_iff_ne]; exact e1
              by_cases g1 : x < 0
              · have hf := Lib.hid (hout.out (Mc.okE_out (fun h => e1 h.1) (.inl g1)))
                go_wp2
                go_ret
                exact ⟨ret_int hf.out.symm, box_below hb3⟩
              by_cases g2 : (rs.length : Int) ≤ x
              · have hf := Lib.hid (hout.out (Mc.okE_out (fun h => e1 h.1) (.inr (.inl g2))))
                go_wp2
                go_ret
                exact ⟨ret_int hf.out.symm, box_below hb3⟩
              by_cases g3 : y < 0
              · have hf := Lib.hid (hout.out (Mc.okE_out (fun h => e1 h.1) (.inr (.inr (.inl g3)))))
                go_wp2
                go_ret
                exact ⟨ret_int hf.out.symm, box_below hb3⟩
              by_cases g4 : o ≤ y
              · have hf := Lib.hid (hout.out (Mc.okE_out (fun h => e1 h.1) (.inr (.inr (.inr g4)))))
                go_wp2
                go_ret
                exact ⟨ret_int hf.out.symm, box_below hb3⟩
              have hgo := Lib.hid (hin.out (Mc.okE_in (by simp only; omega) (by simp only; omega) (by simp only; omega) (by simp only; omega)))
              go_wp2
              go_roundw
              case rel => exact ⟨j + 1, by omega, by go_num, hgo, hb3⟩
              case measure => simp [intOf]; omega
          · have hji : ¬ (j : Int) < i := by omega
            have hgo : Hid ((rs.take (k + 1)).all (Mc.okR rs.length i o) = true) := by
              have h := hnj.out
              rw [List.take_of_length_le (by rw [hln.out]; omega)] at h
              exact Mc.all_snoc hq.out hn.out (Mc.okR_ok hrow.out h)
            go_wp2
            go_roundw
            case rel => exact ⟨k + 1, by omega, by go_num, hgo, hbr2⟩
            case measure => simp [intOf]; omega
      · have hnb : ((n : Int) == i) = false := by rw [beq_eq_false_iff_ne]; exact hni
        have hf : Hid (Mc.chk ⟨i, o, rs⟩ = 1) := hbd.out (Mc.okR_len (by rw [hln.out]; exact hni))
        clear hbd hall
        go_wp2
        go_quiet (fail)
        go_wp2
        go_ret
        exact ⟨ret_int hf.out.symm, below_drewN' (box_below hbr) _⟩
    · have hf : Hid (Mc.chk ⟨i, o, rs⟩ = 0) := by
        have h := hn.out
        rw [List.take_of_length_le (by omega)] at h
        show _ = _
        rw [hall.out, h]; rfl
      go_wp2
      go_ret
      exact ⟨ret_int hf.out.symm, box_below hbr⟩
end Go.Proofs.Ytgafpmgdpigliaa
