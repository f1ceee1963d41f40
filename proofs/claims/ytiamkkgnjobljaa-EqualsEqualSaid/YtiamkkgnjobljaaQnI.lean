/-
  What is reached by words and by steps; what is minimal, in the words of the program and of the reference. No program. No statement is proved here.
-/
import Derived.Test.YtiamkkgnjobljaaQnH
import Derived.Test.YtiamkkgnjobljaaMcT
namespace Go.Proofs.Ytiamkkgnjobljaa.Mc
open M (gz Vd rk cnt)

/-- A word that leads somewhere shows that the state is reached. -/
theorem rch_word9 {m : Ma} (v : Val m) : ∀ (k : Nat) (w : List Int), w.length = k → Wd m w → 0 ≤ aft m 0 w → Rch m 0 (aft m 0 w).toNat
  | 0, w, hl, _, _ => by
    obtain rfl : w = [] := List.length_eq_zero_iff.1 hl
    exact Rch.here
  | k + 1, w, hl, hw, h => by
    obtain ⟨p, c, rfl⟩ := snoc_of (l := w) (fun e => by rw [e] at hl; simp at hl)
    have hp := hw.split
    rw [aft_snoc] at h ⊢
    have h0 : 0 ≤ aft m 0 p := by
      rcases Int.lt_or_le (aft m 0 p) 0 with h1 | h1
      · rw [nx_neg h1] at h
        simp at h
      · exact h1
    have hr0 := v.r0
    have hst := aft_st v p 0 (Or.inr ⟨by omega, by omega⟩) hp.1
    have hlt : aft m 0 p < m.r.length := by
      rcases hst with h1 | h1
      · omega
      · exact h1.2
    have ih := rch_word9 v k p (by simpa using hl) hp.1 h0
    obtain ⟨s, hs⟩ := Int.eq_ofNat_of_zero_le h0
    obtain ⟨d, hd⟩ := Int.eq_ofNat_of_zero_le hp.2.1
    rw [hs] at h ih hlt ⊢
    rw [hd] at h ⊢
    obtain ⟨row, hrow⟩ : ∃ row, m.r[s]? = some row := ⟨_, List.getElem?_eq_getElem (by omega)⟩
    have hrl := v.len row (List.mem_of_getElem? hrow)
    obtain ⟨x, hx⟩ : ∃ x, row[d]? = some x := ⟨_, List.getElem?_eq_getElem (by omega)⟩
    rw [nx_at hrow hx] at h ⊢
    exact Rch.step (s := s) ih hrow hx h
theorem word_rch {m : Ma} (v : Val m) {s : Nat} (h : Rch m 0 s) : ∃ w, Wd m w ∧ aft m 0 w = (s : Int) := by
  induction h with
  | here => exact ⟨[], fun d hd => (by simp at hd), rfl⟩
  | @step s i row x h hs hi hx ih =>
    obtain ⟨w, hw, ht⟩ := ih
    have hrl := v.len row (List.mem_of_getElem? hs)
    have hil := (List.getElem?_eq_some_iff.1 hi).1
    refine ⟨w ++ [(i : Int)], Wd.join hw ⟨by omega, by omega⟩, ?_⟩
    rw [aft_snoc, ht, nx_at hs hi]
    omega
theorem rch_ord {m : Ma} (v : Val m) {s : Nat} : Rch m 0 s ↔ (s : Int) ∈ ord m := by
  rw [(ord_ord v).mem]
  constructor
  · intro h
    exact ⟨by omega, word_rch v h⟩
  · rintro ⟨_, w, hw, ht⟩
    have := rch_word9 v w.length w rfl hw (by rw [ht]; omega)
    rwa [ht, Int.toNat_natCast] at this
theorem conn_con {m : Ma} (v : Val m) : conn m = true ↔ Con m (ord m) := by
  rw [conn_iff]
  exact forall_congr' fun s => imp_congr_right fun _ => rch_ord v
/-- Minimal: connected, and no two states of one class. -/
theorem min_len {m : Ma} (v : Val m) (hc : conn m = true) : (qn m).r.length = m.r.length ↔ ∀ s t : Nat, s < m.r.length → t < m.r.length → gz (cls m) s = gz (cls m) t → s = t := by
  unfold qn
  rw [mnf_len, ← mmin_iff v (ord_ord v)]
  unfold Mmin
  exact ⟨fun h => h.2, fun h => ⟨(conn_con v).1 hc, h⟩⟩
theorem min_conn {m : Ma} (v : Val m) (h : (qn m).r.length = m.r.length) : conn m = true := by
  unfold qn at h
  rw [mnf_len, ← mmin_iff v (ord_ord v)] at h
  exact (conn_con v).2 h.1
/-- The minimal form is its own minimal form, connected, and minimal. -/
theorem qn_own {m : Ma} (v : Val m) : qn (qn m) = qn m := mnf_own (qn_mnm v) (ord_ord (qn_val v))
theorem qn_conn {m : Ma} (v : Val m) : conn (qn m) = true := min_conn (qn_val v) (by rw [qn_own v])
theorem qn_run {m : Ma} (v : Val m) {w : List Int} (hw : Wd m w) : run (qn m) 0 w = run m 0 w := (mnf_sim v (ord_ord v) hw).2
theorem qn_st {m : Ma} (v : Val m) {w : List Int} (hw : Wd m w) {s : Nat} (hs : 0 ≤ qm m s) : run (qn m) (qm m s) w = run m s w := by
  refine mnf_st v (ord_ord v) hw ?_
  apply Classical.byContradiction
  intro h
  rw [qm_none h] at hs
  omega
theorem qn_le {m : Ma} (v : Val m) : (qn m).r.length ≤ m.r.length := by unfold qn; rw [mnf_len]; exact fst_le v (ord_ord v)
theorem qm_zero {m : Ma} (v : Val m) : qm m 0 = 0 := mpg_zero v (ord_ord v)
/-- The map is a homomorphism of a connected machine, and has a state that is none of another one. -/
theorem ql_hom {m : Ma} (v : Val m) (hc : conn m = true) : Hom m (qn m) (ql m) := mpl_hom v (ord_ord v) ((conn_con v).1 hc)
theorem ql_rg {m : Ma} (v : Val m) (hc : conn m = true) : ∀ s : Nat, s < m.r.length → 0 ≤ gz (ql m) s ∧ gz (ql m) s < (qn m).r.length := fun s hs => by
  rw [ql_gz hs]
  refine ⟨?_, (qm_rg v s).2⟩
  have h1 := (conn_con v).1 hc s hs
  have h2 : qm m s = ix ((fst_ m (ord m)).map (cl (cls m))) (cl (cls m) s) := if_pos h1
  rw [h2]
  obtain ⟨f, hf, e⟩ := fst_cov (m := m) h1
  unfold ix
  rw [if_pos (List.mem_map.2 ⟨f, hf, e⟩)]
  omega
theorem ql_bad {m : Ma} (v : Val m) (hc : conn m = false) : ∃ s : Nat, s < m.r.length ∧ qm m s = -1 := by
  apply Classical.byContradiction
  intro h
  have : conn m = true := (conn_con v).2 fun s hs => by
    apply Classical.byContradiction
    intro h2
    exact h ⟨s, hs, qm_none h2⟩
  rw [hc] at this
  cases this
end Go.Proofs.Ytiamkkgnjobljaa.Mc
