/-
  Contract: Rename. No statement is proved here.
-/
import Derived.Test.YtgafpmgdpigliaaJoA
import Derived.Deep.RegionHeld3
namespace Go.Proofs.Ytgafpmgdpigliaa
open Go.RowKit
open Mc (Ed Ma Wv nE)

/-! ### Rows by a function -/
def mkR (n i : Nat) (g : Nat → Nat → Ed) : List (List Ed) := (List.range n).map fun t => (List.range i).map fun c => g t c
section
variable {n i t c : Nat} {g h : Nat → Nat → Ed}
theorem mkR_len : (mkR n i g).length = n := by simp [mkR]
theorem mkR_at (ht : t < n) : (mkR n i g)[t]? = some ((List.range i).map fun c => g t c) := by
  unfold mkR
  rw [List.getElem?_map, List.getElem?_range ht]
  rfl
theorem mkR_congr (e : ∀ t c, t < n → c < i → g t c = h t c) : mkR n i g = mkR n i h := by
  unfold mkR
  refine List.map_congr_left fun t ht => List.map_congr_left fun c hc => ?_
  exact e t c (List.mem_range.1 ht) (List.mem_range.1 hc)
theorem mkR_set (ht : t < n) (hc : c < i) (e : Ed) : (mkR n i g).set t (((List.range i).map fun c => g t c).set c e) = mkR n i (fun t' c' => if t' = t ∧ c' = c then e else g t' c') := by
  apply List.ext_getElem?
  intro k
  rw [List.getElem?_set]
  by_cases hk : t = k
  · subst hk
    rw [if_pos rfl, if_pos (by rw [mkR_len]; exact ht), mkR_at ht]
    congr 1
    apply List.ext_getElem?
    intro d
    rw [List.getElem?_set]
    by_cases hd : c = d
    · subst hd
      rw [if_pos rfl, if_pos (by simp; exact hc), List.getElem?_map, List.getElem?_range hc]
      simp
    · rw [if_neg hd]
      rcases Nat.lt_or_ge d i with h1 | h1
      · rw [List.getElem?_map, List.getElem?_map, List.getElem?_range h1]
        simp only [Option.map_some]
        rw [if_neg (by omega)]
      · rw [List.getElem?_eq_none (by simpa using h1), List.getElem?_eq_none (by simpa using h1)]
  · rw [if_neg hk]
    rcases Nat.lt_or_ge k n with h1 | h1
    · rw [mkR_at h1, mkR_at h1]
      congr 1
      refine List.map_congr_left fun d _ => ?_
      rw [if_neg (by omega)]
    · rw [List.getElem?_eq_none (by rw [mkR_len]; exact h1), List.getElem?_eq_none (by rw [mkR_len]; exact h1)]
theorem mkR_const (e : Ed) : mkR n i (fun _ _ => e) = List.replicate n (List.replicate i e) := by
  unfold mkR
  apply List.ext_getElem?
  intro k
  rcases Nat.lt_or_ge k n with h1 | h1
  · rw [List.getElem?_map, List.getElem?_range h1, List.getElem?_replicate, if_pos h1]
    simp only [Option.map_some]
    congr 1
    apply List.ext_getElem?
    intro d
    rcases Nat.lt_or_ge d i with h2 | h2
    · rw [List.getElem?_map, List.getElem?_range h2, List.getElem?_replicate, if_pos h2]; rfl
    · rw [List.getElem?_eq_none (by simpa using h2), List.getElem?_eq_none (by simpa using h2)]
  · rw [List.getElem?_eq_none (by simpa using h1), List.getElem?_eq_none (by simpa using h1)]
end
/-- A permutation has all numbers. -/
theorem Dst.mem {l : List Int} {n t : Nat} (h : Dst l n) (hl : l.length = n) (ht : t < n) : (t : Int) ∈ l := by
  refine Classical.byContradiction fun hn => ?_
  have := Mc.nodup_le n ((t : Int) :: l) (List.nodup_cons.2 ⟨hn, h.1⟩) (fun x hx => by
    rcases List.mem_cons.1 hx with rfl | hx
    · omega
    · exact h.2 x hx)
  simp at this
  omega
theorem idx_at {l : List Int} {k : Nat} {z : Int} (hd : l.Nodup) (h : l[k]? = some z) : l.idxOf z = k := by
  obtain ⟨h1, h2⟩ := List.getElem?_eq_some_iff.1 h
  have h3 : l.idxOf z < l.length := List.idxOf_lt_length_of_mem (List.mem_of_getElem? h)
  have h4 : l[l.idxOf z] = z := List.getElem_idxOf h3
  exact (List.getElem_inj hd).1 (h4.trans h2.symm)
theorem idx_iff {l : List Int} {n k t : Nat} {z : Nat} (hD : Dst l n) (hl : l.length = n) (h : l[k]? = some (z : Int)) (ht : t < n) : l.idxOf (t : Int) = k ↔ t = z := by
  constructor
  · intro e
    have hm := hD.mem hl ht
    have h3 : l.idxOf (t : Int) < l.length := List.idxOf_lt_length_of_mem hm
    have h4 : l[l.idxOf (t : Int)] = (t : Int) := List.getElem_idxOf h3
    obtain ⟨h1, h2⟩ := List.getElem?_eq_some_iff.1 h
    have h5 : l[k] = (t : Int) := by rw [← h4]; congr 1; exact e.symm
    rw [h2] at h5
    omega
  · rintro rfl
    exact idx_at hD.1 h
/-- An edge with other numbers. -/
def rnE (outs sts : List Int) (x : Ed) : Ed := if x.1 = -1 then nE else ((sts[x.1.toNat]?).getD 0, (outs[x.2.toNat]?).getD 0)
def edA (a : Ma) (s j : Nat) : Ed := (((a.r[s]?).getD [])[j]?).getD nE
def rnT (a : Ma) (ins outs sts : List Int) (t c : Nat) : Ed := rnE outs sts (edA a (sts.idxOf (t : Int)) (ins.idxOf (c : Int)))
/-- The rows of a machine with other numbers. -/
def renT (a : Ma) (ins outs sts : List Int) (n i : Nat) : List (List Ed) := mkR n i (rnT a ins outs sts)
/-- What has been written before the edge of state s for input j. -/
def rnG (a : Ma) (ins outs sts : List Int) (s j t c : Nat) : Ed := if sts.idxOf (t : Int) < s ∨ (sts.idxOf (t : Int) = s ∧ ins.idxOf (c : Int) < j) then rnT a ins outs sts t c else nE
section
variable {a : Ma} {ins outs sts : List Int} {n i s j t c : Nat}
theorem rnG_zero : mkR n i (rnG a ins outs sts 0 0) = List.replicate n (List.replicate i nE) := by
  rw [← mkR_const]
  exact mkR_congr fun t c _ _ => if_neg (by omega)
theorem rnG_line (hD : Dst ins i) (hl : ins.length = i) : mkR n i (rnG a ins outs sts s i) = mkR n i (rnG a ins outs sts (s + 1) 0) := by
  refine mkR_congr fun t c _ hc => ?_
  have h1 : ins.idxOf (c : Int) < i := by rw [← hl]; exact List.idxOf_lt_length_of_mem (hD.mem hl hc)
  unfold rnG
  by_cases h : sts.idxOf (t : Int) < s ∨ (sts.idxOf (t : Int) = s ∧ ins.idxOf (c : Int) < i)
  · rw [if_pos h, if_pos (by omega)]
  · rw [if_neg h, if_neg (by omega)]
theorem rnG_done (hD : Dst sts n) (hl : sts.length = n) : mkR n i (rnG a ins outs sts n 0) = renT a ins outs sts n i := by
  refine mkR_congr fun t c ht _ => ?_
  have h1 : sts.idxOf (t : Int) < n := by
    have := List.idxOf_lt_length_of_mem (hD.mem hl ht)
    omega
  unfold rnG
  rw [if_pos (Or.inl h1)]
theorem rnG_step (hS : Dst sts n) (hsl : sts.length = n) (hI : Dst ins i) (hil : ins.length = i) (hs : sts[s]? = some (t : Int)) (hj : ins[j]? = some (c : Int)) (t' c' : Nat) (ht' : t' < n) (hc' : c' < i) :
    rnG a ins outs sts s (j + 1) t' c' = if t' = t ∧ c' = c then rnE outs sts (edA a s j) else rnG a ins outs sts s j t' c' := by
  have e1 := idx_iff hS hsl hs ht'
  have e2 := idx_iff hI hil hj hc'
  by_cases h : t' = t ∧ c' = c
  · obtain ⟨h1, h2⟩ := h
    have i1 := e1.2 h1
    have i2 := e2.2 h2
    rw [if_pos ⟨h1, h2⟩]
    unfold rnG
    rw [if_pos (by omega)]
    unfold rnT
    rw [i1, i2]
  · rw [if_neg h]
    have h3 : ¬ (sts.idxOf (t' : Int) = s ∧ ins.idxOf (c' : Int) = j) := fun e => h ⟨e1.1 e.1, e2.1 e.2⟩
    unfold rnG
    by_cases h4 : sts.idxOf (t' : Int) < s ∨ (sts.idxOf (t' : Int) = s ∧ ins.idxOf (c' : Int) < j)
    · rw [if_pos h4, if_pos (by omega)]
    · rw [if_neg h4, if_neg (by omega)]
end
theorem kech_zero {a : Ma} {ins outs sts : List Int} (h : kech a ins outs sts = 0) : Mc.Val a ∧ (ins.length : Int) = a.i ∧ (outs.length : Int) = a.o ∧ sts.length = a.r.length ∧ Dst ins a.i.toNat ∧ Dst outs a.o.toNat ∧ Dst sts a.r.length ∧ sts[0]? = some 0 := by
  unfold kech at h
  split at h
  · contradiction
  · rename_i h1
    unfold kerr at h
    split at h
    · cases h
    · split at h
      · cases h
      · split at h
        · cases h
        · rename_i h2 h3 h4
          simp [dstB, zb] at h2 h3 h4
          exact ⟨Mc.val_of (by simpa using h1), h2.1, h2.2.1, by have := h2.2.2; omega, h3.1, h3.2.1, h3.2.2, h4⟩
end Go.Proofs.Ytgafpmgdpigliaa
