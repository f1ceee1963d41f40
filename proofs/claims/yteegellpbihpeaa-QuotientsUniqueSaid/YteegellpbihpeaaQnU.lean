/-
  Doubled states: the machine in which each state has a copy, and each edge leads to either copy. No program. No statement is proved here.
-/
import Derived.Test.YteegellpbihpeaaQnI
namespace Go.Proofs.Yteegellpbihpeaa.Mc
open M (gz Vd rk cnt)

/-- An edge to either copy. -/
def twE (n i : Nat) (t : List Int) (s j : Nat) (x : Ed) : Ed := if 0 ≤ x.1 ∧ s * i + j < t.length ∧ gz t (s * i + j) % 2 = 1 then (x.1 + n, x.2) else x
/-- A row of the machine with the copies. -/
def twR (m : Ma) (n i : Nat) (t : List Int) (s : Nat) : List Ed := (List.range i).map fun j => twE n i t s j ((((m.r[s % n]?).getD [])[j]?).getD nE)
def twn (m : Ma) (n i : Nat) (t : List Int) : Ma := { m with r := (List.range (2 * n)).map (twR m n i t) }
/-- Each copy with its state. -/
def twP (n : Nat) (k : Nat) : List Int := (List.range k).map fun s => ((s % n : Nat) : Int)
theorem twP_len (n k : Nat) : (twP n k).length = k := by simp [twP]
theorem twP_snoc (n k : Nat) : twP n (k + 1) = twP n k ++ [((k % n : Nat) : Int)] := by simp [twP, List.range_succ]
theorem twP_gz {n k s : Nat} (h : s < k) : gz (twP n k) s = ((s % n : Nat) : Int) := by simp [gz, twP, h]
section
variable {m : Ma} {n i : Nat} {t : List Int} {s j : Nat}
theorem twR_len : (twR m n i t s).length = i := by simp [twR]
theorem twR_at {row : List Ed} {x : Ed} (hr : m.r[s % n]? = some row) (hj : j < i) (hx : row[j]? = some x) : (twR m n i t s)[j]? = some (twE n i t s j x) := by
  simp [twR, hj, hr, hx]
theorem twn_len : (twn m n i t).r.length = 2 * n := by simp [twn]
theorem twn_at (h : s < 2 * n) : (twn m n i t).r[s]? = some (twR m n i t s) := by simp [twn, h]
theorem twE_out (x : Ed) : (twE n i t s j x).2 = x.2 := by unfold twE; split <;> rfl
theorem twE_to (x : Ed) : (twE n i t s j x).1 = x.1 ∨ (0 ≤ x.1 ∧ (twE n i t s j x).1 = x.1 + n) := by
  unfold twE
  split
  · rename_i h; exact Or.inr ⟨h.1, rfl⟩
  · exact Or.inl rfl
theorem twn_nx (v : Val m) (hn : m.r.length = n) (hi : m.i = i) (hs : s < 2 * n) (hj : j < i) : nx (twn m n i t) s j = twE n i t s j (nx m ((s % n : Nat) : Int) j) := by
  have h0 := v.r0
  have hsn : s % n < m.r.length := by rw [hn]; exact Nat.mod_lt _ (by omega)
  have hrow := List.getElem?_eq_getElem hsn
  have hl := v.len _ (List.getElem_mem hsn)
  have hx := List.getElem?_eq_getElem (l := m.r[s % n]) (i := j) (by omega)
  rw [nx_at (twn_at hs) (twR_at hrow hj hx), nx_at hrow hx]
theorem twn_val (v : Val m) (hn : m.r.length = n) (hi : m.i = i) (h6 : n ≤ 32) : Val (twn m n i t) := by
  have h0 := v.r0
  refine ⟨v.i0, v.i1, v.o0, v.o1, by rw [twn_len]; omega, by rw [twn_len]; omega, fun row hr => ?_, fun row hr x hx => ?_⟩
  · obtain ⟨s, hs, rfl⟩ := List.mem_map.1 hr
    rw [twR_len]
    exact hi.symm
  · obtain ⟨s, hs, rfl⟩ := List.mem_map.1 hr
    obtain ⟨j, hj, rfl⟩ := List.mem_map.1 hx
    have hj := List.mem_range.1 hj
    have hsn : s % n < m.r.length := by rw [hn]; exact Nat.mod_lt _ (by omega)
    have hrow := List.getElem?_eq_getElem hsn
    have hl := v.len _ (List.getElem_mem hsn)
    have hjl : j < (m.r[s % n]).length := by omega
    have hxx := List.getElem?_eq_getElem hjl
    rw [hrow, Option.getD_some, hxx, Option.getD_some, twE_out, twn_len]
    rcases v.ok _ (List.getElem_mem hsn) _ (List.getElem_mem hjl) with ⟨e1, e2⟩ | ⟨e1, e2, e3, e4⟩
    · refine Or.inl ⟨?_, e2⟩
      rcases twE_to (n := n) (i := i) (t := t) (s := s) (j := j) (m.r[s % n])[j] with h | ⟨h, _⟩
      · rw [h, e1]
      · omega
    · refine Or.inr ?_
      rcases twE_to (n := n) (i := i) (t := t) (s := s) (j := j) (m.r[s % n])[j] with h | ⟨_, h⟩
      · rw [h]
        exact ⟨e1, by omega, e3, e4⟩
      · rw [h]
        exact ⟨by omega, by omega, e3, e4⟩
/-- The copies belong to their states. -/
theorem twn_hom (v : Val m) (hn : m.r.length = n) (hi : m.i = i) (h6 : n ≤ 32) : Hom (twn m n i t) m (twP n (2 * n)) := by
  have h0 := v.r0
  refine ⟨?_, fun s j hs hj => ?_, fun s j hs hj h => ?_⟩
  · rw [twP_gz (by omega), Nat.zero_mod]; rfl
  · rw [twn_len] at hs
    have hj2 : j < i := by have : (j : Int) < m.i := hj; omega
    rw [twP_gz hs, twn_nx v hn hi hs hj2, twE_out]
  · rw [twn_len] at hs
    have hj2 : j < i := by have : (j : Int) < m.i := hj; omega
    rw [twP_gz hs, twn_nx v hn hi hs hj2] at *
    have hst : St m ((s % n : Nat) : Int) := Or.inr ⟨by omega, by rw [hn]; have := Nat.mod_lt s (show 0 < n by omega); omega⟩
    have hx0 := (nx_st v hst (i := (j : Int)) ⟨by omega, hj⟩).1
    obtain ⟨x, hxe⟩ : ∃ x, nx m ((s % n : Nat) : Int) j = x := ⟨_, rfl⟩
    have hx : x.1 = -1 ∨ (0 ≤ x.1 ∧ x.1 < n) := by
      rw [← hxe]
      rcases hx0 with h9 | ⟨h9, h8⟩
      · exact Or.inl h9
      · exact Or.inr ⟨h9, by have h7 : (nx m ((s % n : Nat) : Int) j).1 < (m.r.length : Int) := h8; omega⟩
    rw [hxe] at h ⊢
    rcases twE_to (n := n) (i := i) (t := t) (s := s) (j := j) x with e | ⟨e0, e⟩
    · rw [e] at h ⊢
      have hxl : x.1 < n := by omega
      obtain ⟨q, hq⟩ := Int.eq_ofNat_of_zero_le h
      rw [hq, Int.toNat_natCast, twP_gz (by omega), Nat.mod_eq_of_lt (by omega)]
    · rw [e]
      have hxl : x.1 < n := by omega
      obtain ⟨q, hq⟩ := Int.eq_ofNat_of_zero_le e0
      rw [hq, show ((q : Int) + n).toNat = q + n by omega, twP_gz (by omega), Nat.add_mod_right, Nat.mod_eq_of_lt (by omega)]
theorem twP_rg (h0 : 0 < n) : ∀ s : Nat, s < 2 * n → 0 ≤ gz (twP n (2 * n)) s ∧ gz (twP n (2 * n)) s < n := fun s hs => by
  rw [twP_gz hs]
  have := Nat.mod_lt s h0
  omega
/-- However the states are doubled, the minimal form is the same. -/
theorem twn_qn (v : Val m) (hn : m.r.length = n) (hi : m.i = i) (h6 : n ≤ 32) : qn (twn m n i t) = qn m := by
  have hv := twn_val (t := t) v hn hi h6
  have h0 := v.r0
  have hs : Sim (twn m n i t) m := (twn_hom v hn hi h6).sim hv v rfl fun s hs => by
    rw [twn_len] at hs
    rw [hn]
    exact twP_rg (by omega) s hs
  exact mnf_same hv v (ord_ord hv) (ord_ord v) hs rfl
end
end Go.Proofs.Yteegellpbihpeaa.Mc
