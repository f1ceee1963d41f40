/-
  The minimal form by classes that are counted in the order of their first states. No program. No statement is proved here.
-/
import Derived.Test.YtiamkkgnjobljaaQnZ
import Derived.Test.YtiamkkgnjobljaaWiZ
namespace Go.Proofs.Ytiamkkgnjobljaa.Mc
open M (gz Vd rk cnt)

/-- The first states of the classes of a list, among the first k. -/
def fpl (p : List Int) (k : Nat) : List Int := frN p (rg p.length) k
theorem rg_len (n : Nat) : (rg n).length = n := by simp [rg]
section
variable {p : List Int} {k : Nat}
theorem cl_nat (p : List Int) (k : Nat) : cl p (k : Int) = gz p k := by unfold cl; rw [Int.toNat_natCast]
theorem nw_rg (hk : k < p.length) : nw p (rg p.length) k = true ↔ ∀ t, t < k → gz p k ≠ gz p t := by
  have e0 : ((rg p.length)[k]?).getD 0 = (k : Int) := by rw [rg_at hk]; rfl
  constructor
  · intro h t ht e
    exact nw_no h (rg_at hk) (rg_at (by omega)) ht (by rw [cl_nat, cl_nat, e])
  · intro h
    unfold nw
    rw [List.all_eq_true]
    intro x hx
    obtain ⟨i, hi⟩ := List.mem_iff_getElem?.1 hx
    rw [List.getElem?_take] at hi
    by_cases hik : i < k
    · rw [if_pos hik, rg_at (by omega)] at hi
      injection hi with hi
      subst hi
      rw [e0, cl_nat, cl_nat]
      simp only [bne_iff_ne, ne_eq]
      exact fun e => h i hik e.symm
    · rw [if_neg hik] at hi; cases hi
theorem fpl_old (hk : k < p.length) (h : gz p k ∈ p.take k) : fpl p (k + 1) = fpl p k := by
  unfold fpl
  rw [frN_step, if_neg, List.append_nil]
  intro hn
  obtain ⟨t, ht, e⟩ := (M.mem_take (by omega)).1 h
  exact (nw_rg hk).1 hn t ht e.symm
theorem fpl_new (hk : k < p.length) (h : ¬ gz p k ∈ p.take k) : fpl p (k + 1) = fpl p k ++ [(k : Int)] := by
  unfold fpl
  rw [frN_step, if_pos, rg_at hk]
  · rfl
  · exact (nw_rg hk).2 fun t ht e => h ((M.mem_take (by omega)).2 ⟨t, ht, e.symm⟩)
theorem fpl_zero (p : List Int) : fpl p 0 = [] := rfl
/-- The classes of the first states are 0, 1, 2, .. -/
theorem fpl_cl (hv : Vd p) : ∀ k, k ≤ p.length → (fpl p k).map (cl p) = rg (cnt (p.take k))
  | 0, _ => by rw [fpl_zero, List.take_zero, M.cnt_nil]; rfl
  | k + 1, hk => by
    have ih := fpl_cl hv k (by omega)
    by_cases h : gz p k ∈ p.take k
    · rw [fpl_old (by omega) h, ih, M.take_gz (by omega), M.cnt_old h]
    · rw [fpl_new (by omega) h, List.map_append, ih, M.take_gz (by omega), M.cnt_new h]
      have e : gz p k = cnt (p.take k) := prt_new hv (by omega) fun t ht e => h ((M.mem_take (by omega)).2 ⟨t, ht, e.symm⟩)
      unfold rg
      rw [List.range_succ, List.map_append]
      simp [cl_nat, e]
theorem fpl_len (hv : Vd p) (hk : k ≤ p.length) : (fpl p k).length = cnt (p.take k) := by
  have := congrArg List.length (fpl_cl hv k hk)
  rwa [List.length_map, rg_len] at this
theorem fpl_lt (hk : k ≤ p.length) {f : Int} (h : f ∈ fpl p k) : 0 ≤ f ∧ f < k := by
  obtain ⟨j, hj, h1, _⟩ := (frN_mem (by rw [rg_len]; exact hk)).1 h
  rw [rg_at (by omega)] at h1
  injection h1 with h1
  omega
end
/-- A machine with a state for each class. -/
def mrg (m : Ma) (p : List Int) : Ma := pg m (fpl p p.length) (tgt p)
theorem mrg_len (m : Ma) {p : List Int} (hv : Vd p) : (mrg m p).r.length = cnt p := by
  unfold mrg
  rw [pg_len, fpl_len hv (Nat.le_refl _), List.take_length]
theorem rg_nodup (n : Nat) : (rg n).Nodup := by
  unfold rg
  rw [List.Nodup, List.pairwise_map]
  exact List.pairwise_lt_range.imp fun h e => by omega
section
variable {c m : Ma} {s : Nat}
theorem cls_vd (m : Ma) : Vd (cls m) := rnd_vd m _
theorem cls_len (m : Ma) : (cls m).length = m.r.length := rnd_len m _
/-- Where states are numbered canonically, the class of a state is its number in the minimal form. -/
theorem mpg_rg (hs : s < c.r.length) : mpg c (rg c.r.length) s = gz (cls c) s := by
  have e1 : fst_ c (rg c.r.length) = fpl (cls c) (cls c).length := by unfold fst_ fpl; rw [rg_len, cls_len]
  unfold mpg
  rw [if_pos (rg_mem.2 ⟨by omega, by omega⟩), e1, fpl_cl (cls_vd c) _ (Nat.le_refl _), List.take_length, cl_nat]
  have hb := (cls_vd c).bound (M.gz_mem (l := cls c) (i := s) (by rw [cls_len]; exact hs))
  obtain ⟨z, hz⟩ := Int.eq_ofNat_of_zero_le hb.1
  rw [hz] at hb ⊢
  exact ix_at (rg_nodup _) (rg_at (by omega))
theorem pg_congr (m : Ma) (F : List Int) {g g' : Int → Int} (h : ∀ row ∈ m.r, ∀ x ∈ row, g x.1 = g' x.1) : pg m F g = pg m F g' := by
  unfold pg
  congr 1
  refine List.map_congr_left fun s _ => List.map_congr_left fun x hx => ?_
  rcases hr : m.r[s.toNat]? with _ | row
  · rw [hr] at hx; simp at hx
  · rw [hr] at hx
    rw [h row (List.mem_of_getElem? hr) x hx]
theorem mrg_mnf (v : Val c) (h : Ord c (rg c.r.length)) : mrg c (cls c) = mnf c (rg c.r.length) := by
  have e1 : fst_ c (rg c.r.length) = fpl (cls c) (cls c).length := by unfold fst_ fpl; rw [rg_len, cls_len]
  unfold mrg mnf
  rw [e1]
  refine pg_congr c _ fun row hr x hx => ?_
  rcases v.ok row hr x hx with ⟨e2, _⟩ | ⟨e2, e3, _⟩
  · rw [e2, mpg_none (h.cls v)]
    rfl
  · obtain ⟨t, ht⟩ := Int.eq_ofNat_of_zero_le e2
    rw [ht] at e3 ⊢
    rw [mpg_rg (by omega), tgt_nat]
end
/-- The minimal form, its map, and the map as a list. -/
noncomputable def qn (m : Ma) : Ma := mnf m (ord m)
noncomputable def qm (m : Ma) (s : Int) : Int := mpg m (ord m) s
noncomputable def ql (m : Ma) : List Int := mpl m (ord m)
noncomputable def cnn (m : Ma) : Ma := prt m (ord m)
section
variable {m : Ma} {s : Nat}
theorem ql_len (m : Ma) : (ql m).length = m.r.length := mpl_len m _
theorem qn_i (m : Ma) : (qn m).i = m.i := rfl
theorem qn_o (m : Ma) : (qn m).o = m.o := rfl
theorem cnn_i (m : Ma) : (cnn m).i = m.i := rfl
theorem cnn_o (m : Ma) : (cnn m).o = m.o := rfl
theorem cnn_len (m : Ma) : (cnn m).r.length = (ord m).length := prt_len m _
theorem qn_mnm (v : Val m) : Mnm (qn m) := mnf_mnm v (ord_ord v)
theorem qn_val (v : Val m) : Val (qn m) := (qn_mnm v).val
theorem cnn_val (v : Val m) : Val (cnn m) := prt_val v (ord_cls v) (ord_pos v) (ord_len v (ord_ord v))
theorem cnn_ord (v : Val m) : Ord (cnn m) (rg (cnn m).r.length) := by
  have := (canon_own v (ord_ord v)).1
  rw [cnn_len]
  exact this
theorem cnn_ord_eq (v : Val m) : ord (cnn m) = rg (cnn m).r.length := (ord_ord (cnn_val v)).uniq (cnn_ord v)
theorem cnn_own (v : Val m) : cnn (cnn m) = cnn m := by
  have := (canon_own v (ord_ord v)).2
  show prt (cnn m) (ord (cnn m)) = _
  rw [cnn_ord_eq v, cnn_len]
  exact this
theorem cnn_sim (v : Val m) : Sim m (cnn m) := ⟨rfl, fun _ hw => ((prt_aft v (ord_cls v) ((ord_ord v).zero v.i0) hw).2).symm⟩
/-- The machine of the classes of the canonical machine is the minimal form. -/
theorem mrg_qn (v : Val m) : mrg (cnn m) (cls (cnn m)) = qn m := by
  rw [mrg_mnf (cnn_val v) (cnn_ord v)]
  exact mnf_same (cnn_val v) v (cnn_ord v) (ord_ord v) (cnn_sim v).symm rfl
/-- The map by way of the canonical machine. -/
theorem qm_ix (v : Val m) (h : (s : Int) ∈ ord m) : qm m s = tgt (cls (cnn m)) (ix (ord m) s) := by
  obtain ⟨w, hw⟩ := (ord_ord v).lw v.i0 h
  have e1 := (mnf_sim v (ord_ord v) hw.wd).1
  rw [hw.to] at e1
  have e2 := (mnf_sim (cnn_val v) (cnn_ord v) (w := w) hw.wd).1
  have e3 := (prt_aft v (ord_cls v) ((ord_ord v).zero v.i0) hw.wd).1
  rw [hw.to] at e3
  have e4 : mnf (cnn m) (rg (cnn m).r.length) = mnf m (ord m) := mnf_same (cnn_val v) v (cnn_ord v) (ord_ord v) (cnn_sim v).symm rfl
  rw [e4, e1] at e2
  show mpg m (ord m) s = _
  rw [e2]
  show mpg (cnn m) _ (aft (prt m (ord m)) 0 w) = _
  rw [e3]
  have h1 := ix_lt (l := ord m) (s : Int)
  have h2 : 0 ≤ ix (ord m) (s : Int) := by unfold ix; rw [if_pos h]; omega
  obtain ⟨j, hj⟩ := Int.eq_ofNat_of_zero_le h2
  rw [hj] at h1 ⊢
  rw [mpg_rg (by rw [cnn_len]; omega), tgt_nat]
theorem qm_none (h : ¬ (s : Int) ∈ ord m) : qm m s = -1 := if_neg h
/-- What corresponds to a state in the canonical machine. -/
theorem iso_cnn (v : Val m) : isoE m (cnn m) = 0 ∧ isoB m (cnn m) = true ∧ isoV m (cnn m) = (List.range m.r.length).map fun (s : Nat) => ix (ord m) s := by
  have e1 : isoE m (cnn m) = 0 := by
    unfold isoE
    rw [chk_of v, chk_of (cnn_val v)]
    rfl
  have e2 : isoB m (cnn m) = true := by
    unfold isoB
    rw [e1, if_neg (by simp)]
    exact decide_eq_true (show cnn m = cnn (cnn m) from (cnn_own v).symm)
  refine ⟨e1, e2, ?_⟩
  unfold isoV
  rw [e2, if_pos rfl]
  unfold cor
  refine List.map_congr_left fun s _ => ?_
  rw [List.take_length]
  by_cases h : (s : Int) ∈ ord m
  · rw [if_pos h, cnn_ord_eq v, cnn_len]
    have h1 := ix_lt (l := ord m) (s : Int)
    have h2 : 0 ≤ ix (ord m) (s : Int) := by unfold ix; rw [if_pos h]; omega
    obtain ⟨j, hj⟩ := Int.eq_ofNat_of_zero_le h2
    rw [hj] at h1 ⊢
    rw [Int.toNat_natCast, rg_at (by omega)]
    rfl
  · rw [if_neg h, ix_none h]
theorem ql_gz (hs : s < m.r.length) : gz (ql m) s = qm m s := mpl_gz hs
theorem ql_at (hs : s < m.r.length) : (ql m)[s]? = some (qm m s) := mpl_at hs
theorem qm_rg (v : Val m) (s : Int) : -1 ≤ qm m s ∧ qm m s < (qn m).r.length := by
  unfold qn qm
  rw [mnf_len]
  refine ⟨?_, ?_⟩
  · unfold mpg
    split
    · exact ix_ge _
    · omega
  · unfold mpg
    have := (fst_len v (ord_ord v)).1
    split
    · have := ix_lt (l := (fst_ m (ord m)).map (cl (cls m))) (cl (cls m) s)
      rwa [List.length_map] at this
    · omega
end
end Go.Proofs.Ytiamkkgnjobljaa.Mc
