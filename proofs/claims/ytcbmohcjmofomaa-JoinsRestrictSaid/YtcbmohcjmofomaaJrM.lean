/-
  The mathematics of restricted machines; lists that are told apart step by step. No statement is proved here.
-/
import Derived.Test.YtcbmohcjmofomaaJk0
namespace Go.Proofs.Ytcbmohcjmofomaa
open Go.RowKit
open Mc (Ed Ma Wv nE)

/-- A number that is 1 exactly where something fails. -/
def WzJ (z : Int) (P : Prop) : Prop := (z = 0 ∧ P) ∨ (z = 1 ∧ ¬ P)
theorem WzJ.one {z : Int} {P Q : Prop} (_ : WzJ z P) (h : ¬ Q) : WzJ 1 Q := Or.inr ⟨rfl, h⟩
theorem WzJ.to {z : Int} {P Q : Prop} (h : WzJ z P) (hq : Q ↔ P) : WzJ z Q := by
  rcases h with ⟨h1, h2⟩ | ⟨h1, h2⟩
  · exact Or.inl ⟨h1, hq.2 h2⟩
  · exact Or.inr ⟨h1, fun h => h2 (hq.1 h)⟩
theorem dst_snoc {l : List Int} {n k : Nat} {z : Int} (hk : l[k]? = some z) : Dst (l.take (k + 1)) n ↔ Dst (l.take k) n ∧ (∀ j : Nat, j < k → l[j]? ≠ some z) ∧ 0 ≤ z ∧ z < n := by
  have hl : k < l.length := (List.getElem?_eq_some_iff.1 hk).1
  have e : l.take (k + 1) = l.take k ++ [z] := by
    rw [List.take_add_one, hk]
    rfl
  have hm : z ∈ l.take k ↔ ∃ j : Nat, j < k ∧ l[j]? = some z := by
    constructor
    · intro h
      obtain ⟨j, hj⟩ := List.mem_iff_getElem?.1 h
      have h1 : j < (l.take k).length := (List.getElem?_eq_some_iff.1 hj).1
      rw [List.length_take] at h1
      rw [List.getElem?_take_of_lt (by omega)] at hj
      exact ⟨j, by omega, hj⟩
    · rintro ⟨j, hj, h⟩
      exact List.mem_iff_getElem?.2 ⟨j, by rw [List.getElem?_take_of_lt hj]; exact h⟩
  unfold Dst
  rw [e]
  constructor
  · rintro ⟨h1, h2⟩
    have h3 := List.nodup_append.1 h1
    have h4 := h2 z (by simp)
    exact ⟨⟨h3.1, fun x hx => h2 x (by simp [hx])⟩, fun j hj he => h3.2.2 z (hm.2 ⟨j, hj, he⟩) z (by simp) rfl, h4⟩
  · rintro ⟨⟨h1, h2⟩, h3, h4⟩
    refine ⟨List.nodup_append.2 ⟨h1, by simp, fun x hx y hy => ?_⟩, fun x hx => ?_⟩
    · simp at hy
      subst hy
      intro e
      subst e
      obtain ⟨j, hj, he⟩ := hm.1 hx
      exact h3 j hj he
    · rcases List.mem_append.1 hx with h5 | h5
      · exact h2 x h5
      · simp at h5
        subst h5
        exact h4
theorem dst_nil (l : List Int) (n : Nat) : Dst (l.take 0) n := ⟨by simp, by simp⟩

/-- The restricted machine. -/
def resM (a : Ma) (ins : List Int) : Ma := ⟨ins.length, a.o, resT a ins⟩
def gzJ (l : List Int) (z : Int) : Int := (l[z.toNat]?).getD 0
section
variable {a : Ma} {ins : List Int}
theorem res_len : (resM a ins).r.length = a.r.length := by simp [resM, resT]
theorem res_row {s : Nat} {row : List Ed} (h : a.r[s]? = some row) : (resM a ins).r[s]? = some (ins.map fun z => (row[z.toNat]?).getD nE) := by
  show (resT a ins)[s]? = _
  unfold resT
  rw [List.getElem?_map, h]
  rfl
theorem res_val (v : Mc.Val a) (hD : Dst ins a.i.toNat) (h1 : 1 ≤ ins.length) (h16 : ins.length ≤ 16) : Mc.Val (resM a ins) := by
  refine ⟨by show (1 : Int) ≤ (ins.length : Int); omega, by show ((ins.length : Nat) : Int) ≤ 16; omega, v.o0, v.o1, by rw [res_len]; exact v.r0, by rw [res_len]; exact v.r1, fun row hr => ?_, fun row hr x hx => ?_⟩
  · obtain ⟨s, hs⟩ := List.mem_iff_getElem?.1 hr
    have hl : s < a.r.length := by
      have := (List.getElem?_eq_some_iff.1 hs).1
      rwa [res_len] at this
    rw [res_row (List.getElem?_eq_getElem hl)] at hs
    injection hs with hs
    subst hs
    simp [resM]
  · obtain ⟨s, hs⟩ := List.mem_iff_getElem?.1 hr
    have hl : s < a.r.length := by
      have := (List.getElem?_eq_some_iff.1 hs).1
      rwa [res_len] at this
    rw [res_row (List.getElem?_eq_getElem hl)] at hs
    injection hs with hs
    subst hs
    obtain ⟨z, hz, rfl⟩ := List.mem_map.1 hx
    have h2 := hD.2 z hz
    have h3 := v.len _ (List.getElem_mem hl)
    have h4 : z.toNat < (a.r[s]).length := by omega
    rw [List.getElem?_eq_getElem h4, Option.getD_some, res_len]
    exact v.ok _ (List.getElem_mem hl) _ (List.getElem_mem h4)
theorem gzJ_in (hD : Dst ins a.i.toNat) {c : Int} (hc : 0 ≤ c ∧ c < ins.length) : 0 ≤ gzJ ins c ∧ gzJ ins c < a.i := by
  have h1 : c.toNat < ins.length := by omega
  unfold gzJ
  rw [List.getElem?_eq_getElem h1, Option.getD_some]
  have := hD.2 _ (List.getElem_mem h1)
  omega
theorem res_nx (v : Mc.Val a) (hD : Dst ins a.i.toNat) {s c : Int} (hs : Mc.St a s) (hc : 0 ≤ c ∧ c < ins.length) : Mc.nx (resM a ins) s c = Mc.nx a s (gzJ ins c) := by
  rcases hs with rfl | ⟨h1, h2⟩
  · rw [Mc.nx_neg (by omega), Mc.nx_neg (by omega)]
  · obtain ⟨s, rfl⟩ := Int.eq_ofNat_of_zero_le h1
    obtain ⟨c, rfl⟩ := Int.eq_ofNat_of_zero_le hc.1
    have hl : s < a.r.length := by omega
    have hcl : c < ins.length := by omega
    have hg := gzJ_in hD hc
    have hz : gzJ ins c = ins[c] := by unfold gzJ; simp [hcl]
    have h3 := v.len _ (List.getElem_mem hl)
    obtain ⟨y, hy⟩ : ∃ y : Nat, gzJ ins c = (y : Int) := ⟨(gzJ ins c).toNat, by omega⟩
    have h4 : y < (a.r[s]).length := by omega
    rw [hy, Mc.nx_at (List.getElem?_eq_getElem hl) (List.getElem?_eq_getElem h4)]
    refine Mc.nx_at (res_row (List.getElem?_eq_getElem hl)) ?_
    rw [List.getElem?_map, List.getElem?_eq_getElem hcl, ← hz, hy]
    simp [h4]
theorem res_wd (hD : Dst ins a.i.toNat) {w : List Int} (hw : Mc.Wd (resM a ins) w) : Mc.Wd a (w.map (gzJ ins)) := fun c hc => by
  obtain ⟨z, hz, rfl⟩ := List.mem_map.1 hc
  exact gzJ_in hD (hw z hz)
theorem res_run (v : Mc.Val a) (hD : Dst ins a.i.toNat) : ∀ (w : List Int) (s : Int), Mc.St a s → Mc.Wd (resM a ins) w → Mc.run (resM a ins) s w = Mc.run a s (w.map (gzJ ins)) ∧ Mc.aft (resM a ins) s w = Mc.aft a s (w.map (gzJ ins))
  | [], _, _, _ => ⟨rfl, rfl⟩
  | c :: w, s, hs, hw => by
    have hc := hw c (by simp)
    have e := res_nx v hD hs hc
    have h := res_run v hD w (Mc.nx a s (gzJ ins c)).1 (Mc.nx_st v hs (gzJ_in hD hc)).1 (fun d hd => hw d (by simp [hd]))
    refine ⟨?_, ?_⟩
    · show (Mc.nx (resM a ins) s c).2 :: Mc.run (resM a ins) (Mc.nx (resM a ins) s c).1 w = (Mc.nx a s (gzJ ins c)).2 :: Mc.run a (Mc.nx a s (gzJ ins c)).1 (w.map (gzJ ins))
      rw [e, h.1]
    · show Mc.aft (resM a ins) (Mc.nx (resM a ins) s c).1 w = Mc.aft a (Mc.nx a s (gzJ ins c)).1 (w.map (gzJ ins))
      rw [e, h.2]
theorem rech_val (v : Mc.Val a) (ins : List Int) : rech a ins = if 16 < ins.length then 3 else if ins.length = 0 ∨ ¬ Dst ins a.i.toNat then 1 else 0 := by
  unfold rech
  rw [if_neg (by rw [Mc.chk_of v]; simp)]
end
end Go.Proofs.Ytcbmohcjmofomaa
