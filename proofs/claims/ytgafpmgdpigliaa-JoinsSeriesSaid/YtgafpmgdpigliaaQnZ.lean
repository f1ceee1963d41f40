/-
  Several texts in one: QnM, QnF, QnG. No statement is proved here.
-/
import Derived.Test.YtgafpmgdpigliaaRmZ
import Derived.Test.YtgafpmgdpigliaaWkZ
namespace Go.Proofs.Ytgafpmgdpigliaa.Mc
open M (gz Vd rk)

/-- A machine with some states of another one; the others by a map. -/
def pg (m : Ma) (F : List Int) (g : Int → Int) : Ma := { m with r := F.map fun s => ((m.r[s.toNat]?).getD []).map fun x => (g x.1, x.2) }
/-- All words have the same responses. -/
def Eqw (m : Ma) (s t : Int) : Prop := ∀ w, Wd m w → run m s w = run m t w
theorem Eqw.symm {m : Ma} {s t : Int} (h : Eqw m s t) : Eqw m t s := fun w hw => (h w hw).symm
theorem Eqw.trans {m : Ma} {s t u : Int} (h : Eqw m s t) (h' : Eqw m t u) : Eqw m s u := fun w hw => (h w hw).trans (h' w hw)
theorem Eqw.out {m : Ma} {s t c : Int} (h : Eqw m s t) (hc : 0 ≤ c ∧ c < m.i) : (nx m s c).2 = (nx m t c).2 := by
  have := h [c] (fun d hd => by simp at hd; subst hd; exact hc)
  simp only [run, List.cons.injEq, and_true] at this
  exact this
theorem Eqw.to {m : Ma} {s t c : Int} (h : Eqw m s t) (hc : 0 ≤ c ∧ c < m.i) : Eqw m (nx m s c).1 (nx m t c).1 := fun w hw => by
  have := h (c :: w) (fun d hd => by rcases List.mem_cons.1 hd with rfl | hd; exact hc; exact hw d hd)
  simp only [run, List.cons.injEq] at this
  exact this.2
/-- An edge leads nowhere exactly if it has no output. -/
theorem nx_none {m : Ma} (v : Val m) {s c : Int} (hs : St m s) (hc : 0 ≤ c ∧ c < m.i) : (nx m s c).1 = -1 ↔ (nx m s c).2 = -1 := by
  rcases hs with rfl | ⟨h1, h2⟩
  · rw [nx_neg (by omega)]
  · obtain ⟨s, rfl⟩ := Int.eq_ofNat_of_zero_le h1
    obtain ⟨c, rfl⟩ := Int.eq_ofNat_of_zero_le hc.1
    have hsl : s < m.r.length := by omega
    have hrow := v.len m.r[s] (List.getElem_mem hsl)
    have hcl : c < (m.r[s]).length := by omega
    rw [nx_at (List.getElem?_eq_getElem hsl) (List.getElem?_eq_getElem hcl)]
    rcases v.ok _ (List.getElem_mem hsl) _ (List.getElem_mem hcl) with ⟨e1, e2⟩ | ⟨e1, _, e2, _⟩
    · exact ⟨fun _ => e2, fun _ => e1⟩
    · constructor <;> intro e <;> omega
/-- What the states that stay, and the map, must be. -/
structure Qt (m : Ma) (l F : List Int) (g : Int → Int) : Prop where
  cls : Cls m l
  none : g (-1) = -1
  at_ : ∀ s ∈ l, ∃ (k : Nat) (f : Int), g s = k ∧ F[k]? = some f ∧ f ∈ l ∧ Eqw m f s
  same : ∀ s ∈ l, ∀ t ∈ l, Eqw m s t → g s = g t
section
variable {m : Ma} {l F : List Int} {g : Int → Int}
theorem pg_len (m : Ma) (F : List Int) (g : Int → Int) : (pg m F g).r.length = F.length := by simp [pg]
theorem Qt.tgt (h : Qt m l F g) (v : Val m) {s t : Int} (hs : s ∈ l) (ht : t ∈ l) (e : Eqw m s t) {c : Int} (hc : 0 ≤ c ∧ c < m.i) : g (nx m s c).1 = g (nx m t c).1 := by
  have h1 := h.cls.rg s hs
  have h2 := h.cls.rg t ht
  have hs' : St m s := Or.inr h1
  have ht' : St m t := Or.inr h2
  have ho := e.out hc
  by_cases hn : (nx m s c).1 = -1
  · have : (nx m t c).1 = -1 := by rw [nx_none v ht' hc, ← ho]; exact (nx_none v hs' hc).1 hn
    rw [hn, this]
  · have hn2 : (nx m t c).1 ≠ -1 := fun e2 => hn ((nx_none v hs' hc).2 (by rw [ho]; exact (nx_none v ht' hc).1 e2))
    have g1 := nx_st v hs' hc
    have g2 := nx_st v ht' hc
    refine h.same _ (h.cls.cl s hs c hc.1 hc.2 ?_) _ (h.cls.cl t ht c hc.1 hc.2 ?_) (e.to hc)
    · rcases g1.1 with e3 | e3
      · exact absurd e3 hn
      · exact e3.1
    · rcases g2.1 with e3 | e3
      · exact absurd e3 hn2
      · exact e3.1
theorem Qt.nx (h : Qt m l F g) (v : Val m) {s : Int} (hs : s ∈ l) {c : Int} (hc : 0 ≤ c ∧ c < m.i) : nx (pg m F g) (g s) c = (g (nx m s c).1, (nx m s c).2) := by
  obtain ⟨k, f, h1, h2, h3, h4⟩ := h.at_ s hs
  obtain ⟨h5, h6⟩ := h.cls.rg f h3
  rw [← h.tgt v h3 hs h4 hc, ← h4.out hc]
  obtain ⟨f, rfl⟩ := Int.eq_ofNat_of_zero_le h5
  obtain ⟨c, rfl⟩ := Int.eq_ofNat_of_zero_le hc.1
  have hsl : f < m.r.length := by omega
  have hrow := v.len m.r[f] (List.getElem_mem hsl)
  have hcl : c < (m.r[f]).length := by omega
  rw [nx_at (m := m) (List.getElem?_eq_getElem hsl) (List.getElem?_eq_getElem hcl), h1]
  refine nx_at (row := (m.r[f]).map fun x => (g x.1, x.2)) ?_ ?_
  · simp [pg, h2, List.getElem?_eq_getElem hsl]
  · simp [List.getElem?_eq_getElem hcl]
/-- The same words lead to the classes of the same states, and give the same outputs. -/
theorem Qt.sim (h : Qt m l F g) (v : Val m) : ∀ (w : List Int) (s : Int), s = -1 ∨ s ∈ l → Wd m w → aft (pg m F g) (g s) w = g (aft m s w) ∧ run (pg m F g) (g s) w = run m s w
  | [], s, _, _ => ⟨rfl, rfl⟩
  | c :: w, s, hs, hw => by
    have hc := hw c (by simp)
    have hw' : Wd m w := fun d hd => hw d (by simp [hd])
    have key : Mc.nx (pg m F g) (g s) c = (g (Mc.nx m s c).1, (Mc.nx m s c).2) := by
      rcases hs with rfl | hs
      · rw [h.none, nx_neg (by omega), nx_neg (by omega)]
        show nE = (g (-1), -1)
        rw [h.none]
      · exact h.nx v hs hc
    have hn : (Mc.nx m s c).1 = -1 ∨ (Mc.nx m s c).1 ∈ l := by
      rcases hs with rfl | hs
      · left; rw [nx_neg (by omega)]
      · rcases (nx_st v (Or.inr (h.cls.rg s hs)) hc).1 with e | e
        · exact Or.inl e
        · exact Or.inr (h.cls.cl s hs c hc.1 hc.2 e.1)
    obtain ⟨h1, h2⟩ := Qt.sim h v w _ hn hw'
    show aft (pg m F g) (Mc.nx (pg m F g) (g s) c).1 w = g (aft m (Mc.nx m s c).1 w) ∧ (Mc.nx (pg m F g) (g s) c).2 :: run (pg m F g) (Mc.nx (pg m F g) (g s) c).1 w = (Mc.nx m s c).2 :: run m (Mc.nx m s c).1 w
    rw [key]
    exact ⟨h1, by simp only [h2]⟩
theorem Qt.val (h : Qt m l F g) (v : Val m) (h1 : 1 ≤ F.length) (h2 : F.length ≤ 64) (hF : ∀ f ∈ F, f ∈ l) : Val (pg m F g) := by
  refine ⟨v.i0, v.i1, v.o0, v.o1, by rw [pg_len]; exact h1, by rw [pg_len]; exact h2, fun row hr => ?_, fun row hr x hx => ?_⟩
  · obtain ⟨s, hs, rfl⟩ := List.mem_map.1 hr
    have h3 := h.cls.rg s (hF s hs)
    have hsl : s.toNat < m.r.length := by omega
    rw [List.length_map, List.getElem?_eq_getElem hsl]
    exact v.len _ (List.getElem_mem hsl)
  · obtain ⟨s, hs, rfl⟩ := List.mem_map.1 hr
    have h3 := h.cls.rg s (hF s hs)
    have hsl : s.toNat < m.r.length := by omega
    rw [List.getElem?_eq_getElem hsl, Option.getD_some] at hx
    obtain ⟨y, hy, rfl⟩ := List.mem_map.1 hx
    obtain ⟨c, hc⟩ := List.mem_iff_getElem?.1 hy
    have hrow := v.len _ (List.getElem_mem hsl)
    have hcl := (List.getElem?_eq_some_iff.1 hc).1
    rw [pg_len]
    rcases v.ok _ (List.getElem_mem hsl) y hy with ⟨e1, e2⟩ | ⟨e1, e2, e3, e4⟩
    · exact Or.inl ⟨by show g y.1 = -1; rw [e1]; exact h.none, e2⟩
    · have hnx : Mc.nx m s c = y := by
        have := nx_at (m := m) (s := s.toNat) (i := c) (List.getElem?_eq_getElem hsl) hc
        rwa [show ((s.toNat : Nat) : Int) = s by omega] at this
      have hmem := h.cls.cl s (hF s hs) c (by omega) (by omega) (by rw [hnx]; exact e1)
      rw [hnx] at hmem
      obtain ⟨k, f, h5, h6, _⟩ := h.at_ _ hmem
      have h7 := (List.getElem?_eq_some_iff.1 h6).1
      refine Or.inr ⟨?_, ?_, e3, e4⟩
      · show 0 ≤ g y.1; rw [h5]; omega
      · show g y.1 < F.length; rw [h5]; omega
end
/-! ### One minimal form -/
/-- The numbers below n. -/
def rg (n : Nat) : List Int := (List.range n).map fun (j : Nat) => (j : Int)
theorem rg_mem {n : Nat} {s : Int} : s ∈ rg n ↔ 0 ≤ s ∧ s < n := by
  unfold rg
  rw [List.mem_map]
  constructor
  · rintro ⟨j, hj, rfl⟩
    have := List.mem_range.1 hj
    omega
  · rintro ⟨h1, h2⟩
    obtain ⟨j, rfl⟩ := Int.eq_ofNat_of_zero_le h1
    exact ⟨j, List.mem_range.2 (by omega), rfl⟩
theorem rg_at {n j : Nat} (h : j < n) : (rg n)[j]? = some (j : Int) := by simp [rg, h]
/-- A machine all of whose states are reached, in the order of their access words, and no two of which have the same responses. -/
structure Mnm (c : Ma) : Prop where
  val : Val c
  ord : Ord c (rg c.r.length)
  min : ∀ s t : Int, 0 ≤ s → s < c.r.length → 0 ≤ t → t < c.r.length → Eqw c s t → s = t
section
variable {c d : Ma} {w u : List Int} {s t : Int}
theorem Mnm.lw (h : Mnm c) (h0 : 0 ≤ s) (h1 : s < c.r.length) : ∃ w, Lw c 0 w s := h.ord.lw h.val.i0 (rg_mem.2 ⟨h0, h1⟩)
theorem Mnm.ar_lt (h : Mnm c) (h0 : 0 ≤ s) (hst : s < t) (h1 : t < c.r.length) : ar c s < ar c t := by
  obtain ⟨s, rfl⟩ := Int.eq_ofNat_of_zero_le h0
  obtain ⟨t, rfl⟩ := Int.eq_ofNat_of_zero_le (show 0 ≤ t by omega)
  have hl : (rg c.r.length).length = c.r.length := by simp [rg]
  have hp := List.pairwise_iff_getElem.1 h.ord.srt s t (by omega) (by omega) (by omega)
  have e1 := rg_at (n := c.r.length) (j := s) (by omega)
  have e2 := rg_at (n := c.r.length) (j := t) (by omega)
  rw [List.getElem?_eq_getElem (by omega)] at e1 e2
  rw [Option.some.inj e1, Option.some.inj e2] at hp
  exact hp
/-- Two machines with the same responses from their initial states. -/
structure Sim (c d : Ma) : Prop where
  i : c.i = d.i
  run : ∀ w, Wd c w → run c 0 w = run d 0 w
theorem Wd.of_i (h : c.i = d.i) (hw : Wd c w) : Wd d w := fun x hx => by rw [← h]; exact hw x hx
theorem Sim.symm (h : Sim c d) : Sim d c := ⟨h.i.symm, fun w hw => (h.run w (hw.of_i h.i.symm)).symm⟩
theorem zero_st (v : Val c) : St c 0 := Or.inr ⟨by omega, by have := v.r0; omega⟩
theorem Sim.out (h : Sim c d) (hw : Wd c w) {a : Int} (ha : 0 ≤ a ∧ a < c.i) : (nx c (aft c 0 w) a).2 = (nx d (aft d 0 w) a).2 := by
  have e := h.run (w ++ [a]) (Wd.join hw ha)
  rw [run_app, run_app] at e
  have e2 := List.append_inj_right e (by rw [run_len, run_len])
  simp only [Mc.run, List.cons.injEq, and_true] at e2
  exact e2
theorem Sim.res (h : Sim c d) (hw : Wd c w) (hu : Wd c u) : Mc.run c (aft c 0 w) u = Mc.run d (aft d 0 w) u := by
  have e := h.run (w ++ u) (fun x hx => by rcases List.mem_append.1 hx with hx | hx; exact hw x hx; exact hu x hx)
  rw [run_app, run_app] at e
  exact List.append_inj_right e (by rw [run_len, run_len])
theorem Sim.none (h : Sim c d) (vc : Val c) (vd : Val d) (hw : Wd c w) : aft c 0 w = -1 ↔ aft d 0 w = -1 := by
  by_cases h0 : w = []
  · subst h0; exact ⟨fun e => by simp [aft] at e, fun e => by simp [aft] at e⟩
  · obtain ⟨y, a, rfl⟩ := snoc_of h0
    obtain ⟨hy, ha⟩ := Wd.split hw
    rw [aft_snoc, aft_snoc, nx_none vc (aft_st vc y 0 (zero_st vc) hy) ha, nx_none vd (aft_st vd y 0 (zero_st vd) (hy.of_i h.i)) (by rw [← h.i]; exact ha), h.out hy ha]
theorem Sim.def_ (h : Sim c d) (vc : Val c) (vd : Val d) (hw : Wd c w) (h0 : 0 ≤ aft c 0 w) : 0 ≤ aft d 0 w ∧ aft d 0 w < d.r.length := by
  rcases aft_st vd w 0 (zero_st vd) (hw.of_i h.i) with e | e
  · have := (h.none vc vd hw).2 e
    omega
  · exact e
theorem Sim.same (h : Sim c d) (vc : Val c) (md : Mnm d) (hw : Wd c w) (hu : Wd c u) (h0 : 0 ≤ aft c 0 w) (e : aft c 0 w = aft c 0 u) : aft d 0 w = aft d 0 u := by
  obtain ⟨h1, h2⟩ := h.def_ vc md.val hw h0
  obtain ⟨h3, h4⟩ := h.def_ vc md.val hu (by rw [← e]; exact h0)
  refine md.min _ _ h1 h2 h3 h4 fun x hx => ?_
  have hx' : Wd c x := hx.of_i h.i.symm
  rw [← h.res hw hx', ← h.res hu hx', e]
theorem Sim.lw (h : Sim c d) (mc : Mnm c) (md : Mnm d) (hl : Lw c 0 w s) (h0 : 0 ≤ s) : Lw d 0 w (aft d 0 w) := by
  refine ⟨hl.wd.of_i h.i, rfl, fun v hv hto => ?_⟩
  have hv' : Wd c v := hv.of_i h.i.symm
  have e := h.symm.same md.val mc hv (hl.wd.of_i h.i) (by rw [hto]; exact (h.def_ mc.val md.val hl.wd (by rw [hl.to]; exact h0)).1) hto
  rw [← h.i]
  exact hl.le v hv' (e.trans hl.to)
/-- A state of the one is the same state of the other. -/
theorem Sim.ge (h : Sim c d) (mc : Mnm c) (md : Mnm d) : ∀ (k : Nat), k < c.r.length → ∀ w, Lw c 0 w k → (k : Int) ≤ aft d 0 w ∧ aft d 0 w < d.r.length
  | 0, hk, w, hl => h.def_ mc.val md.val hl.wd (by rw [hl.to]; omega)
  | k + 1, hk, w, hl => by
    obtain ⟨h1, h2⟩ := h.def_ mc.val md.val hl.wd (by rw [hl.to]; omega)
    refine ⟨?_, h2⟩
    obtain ⟨u, hu⟩ := mc.lw (s := (k : Int)) (by omega) (by omega)
    obtain ⟨h3, h4⟩ := Sim.ge h mc md k (by omega) u hu
    have h5 := mc.ar_lt (s := (k : Int)) (t := ((k + 1 : Nat) : Int)) (by omega) (by omega) (by omega)
    rw [ar_eq mc.val.i0 hu, ar_eq mc.val.i0 hl] at h5
    have e1 := ar_eq md.val.i0 (h.lw mc md hu (by omega))
    have e2 := ar_eq md.val.i0 (h.lw mc md hl (by omega))
    rw [← h.i] at e1 e2
    rcases Int.lt_or_le (aft d 0 u) (aft d 0 w) with h6 | h6
    · omega
    · rcases Int.lt_or_le (aft d 0 w) (aft d 0 u) with h7 | h7
      · have h8 := md.ar_lt h1 h7 h4
        omega
      · have h8 : aft d 0 u = aft d 0 w := by omega
        rw [h8] at e1
        omega
theorem Sim.self (h : Sim c d) (mc : Mnm c) (md : Mnm d) {k : Nat} (hk : k < c.r.length) (hl : Lw c 0 w k) : aft d 0 w = k := by
  obtain ⟨h1, h2⟩ := h.ge mc md k hk w hl
  obtain ⟨j, hj⟩ := Int.eq_ofNat_of_zero_le (show 0 ≤ aft d 0 w by omega)
  have h3 := h.lw mc md hl (by omega)
  rw [hj] at h1 h2 h3
  obtain ⟨h4, _⟩ := h.symm.ge md mc j (by omega) w h3
  rw [hl.to] at h4
  rw [hj]
  omega
theorem Sim.len (h : Sim c d) (mc : Mnm c) (md : Mnm d) : c.r.length = d.r.length := by
  have key : ∀ {c d : Ma}, Sim c d → Mnm c → Mnm d → c.r.length ≤ d.r.length := fun {c d} h mc md => by
    have h0 := mc.val.r0
    obtain ⟨w, hw⟩ := mc.lw (s := ((c.r.length - 1 : Nat) : Int)) (by omega) (by omega)
    obtain ⟨h1, h2⟩ := h.ge mc md (c.r.length - 1) (by omega) w hw
    omega
  have h1 := key h mc md
  have h2 := key h.symm md mc
  omega
theorem Sim.aft (h : Sim c d) (mc : Mnm c) (md : Mnm d) (hw : Wd c w) : Mc.aft c 0 w = Mc.aft d 0 w := by
  rcases aft_st mc.val w 0 (zero_st mc.val) hw with e | ⟨e1, e2⟩
  · rw [e, (h.none mc.val md.val hw).1 e]
  · obtain ⟨k, hk⟩ := Int.eq_ofNat_of_zero_le e1
    obtain ⟨u, hu⟩ := mc.lw e1 e2
    rw [hk] at hu
    rw [h.same mc.val md hw hu.wd e1 (by rw [hu.to, hk]), h.self mc md (by omega) hu, hk]
/-- There is one minimal form for one response. -/
theorem Mnm.uniq (mc : Mnm c) (md : Mnm d) (h : Sim c d) (ho : c.o = d.o) : c = d := by
  have hlen := h.len mc md
  have hnx : ∀ (s a : Nat), s < c.r.length → (a : Int) < c.i → nx c s a = nx d s a := fun s a hs ha => by
    obtain ⟨w, hw⟩ := mc.lw (s := (s : Int)) (by omega) (by omega)
    have e1 := h.aft mc md hw.wd
    have hwa := Wd.join hw.wd (c := (a : Int)) ⟨by omega, ha⟩
    have e2 := h.aft mc md hwa
    have e3 := h.out hw.wd (a := (a : Int)) ⟨by omega, ha⟩
    rw [aft_snoc, aft_snoc, ← e1, hw.to] at e2
    rw [← e1, hw.to] at e3
    exact Prod.ext e2 e3
  have hr : c.r = d.r := by
    refine List.ext_getElem hlen fun s h1 h2 => ?_
    have l1 := mc.val.len _ (List.getElem_mem h1)
    have l2 := md.val.len _ (List.getElem_mem h2)
    have hi := h.i
    refine List.ext_getElem (by omega) fun a h3 h4 => ?_
    have e := hnx s a h1 (by omega)
    rw [nx_at (List.getElem?_eq_getElem h1) (List.getElem?_eq_getElem h3), nx_at (List.getElem?_eq_getElem h2) (List.getElem?_eq_getElem h4)] at e
    exact e
  obtain ⟨ci, co, cr⟩ := c
  obtain ⟨di, do_, dr⟩ := d
  have hi := h.i
  simp only at hr ho hi
  rw [hr, ho, hi]
end
end Go.Proofs.Ytgafpmgdpigliaa.Mc

namespace Go.Proofs.Ytgafpmgdpigliaa.Mc
open M (gz Vd rk)

/-- The class of a state. -/
def cl (p : List Int) (s : Int) : Int := gz p s.toNat
/-- No state before the j-th one is in its class. -/
def nw (p L : List Int) (j : Nat) : Bool := (L.take j).all fun x => cl p x != cl p ((L[j]?).getD 0)
/-- The states that stay, among the first k. -/
def frN (p L : List Int) (k : Nat) : List Int := ((List.range k).filter (nw p L)).map fun j => (L[j]?).getD 0
section
variable {p L : List Int} {k : Nat} {s f : Int}
theorem frN_zero (p L : List Int) : frN p L 0 = [] := rfl
theorem frN_step (p L : List Int) (k : Nat) : frN p L (k + 1) = frN p L k ++ if nw p L k then [(L[k]?).getD 0] else [] := by
  unfold frN
  rw [List.range_succ, List.filter_append, List.map_append]
  congr 1
  by_cases h : nw p L k = true
  · rw [if_pos h, List.filter_cons_of_pos h]; rfl
  · rw [if_neg h, List.filter_cons_of_neg h]; rfl
theorem frN_mem (hk : k ≤ L.length) : f ∈ frN p L k ↔ ∃ j, j < k ∧ L[j]? = some f ∧ nw p L j = true := by
  unfold frN
  rw [List.mem_map]
  constructor
  · rintro ⟨j, hj, rfl⟩
    obtain ⟨h1, h2⟩ := List.mem_filter.1 hj
    have h3 := List.mem_range.1 h1
    exact ⟨j, h3, by rw [List.getElem?_eq_getElem (by omega)]; rfl, h2⟩
  · rintro ⟨j, hj, h1, h2⟩
    exact ⟨j, List.mem_filter.2 ⟨List.mem_range.2 hj, h2⟩, by rw [h1]; rfl⟩
theorem nw_no {j i : Nat} {x y : Int} (h : nw p L j = true) (hj : L[j]? = some x) (hi : L[i]? = some y) (hij : i < j) : cl p y ≠ cl p x := by
  unfold nw at h
  rw [List.all_eq_true] at h
  have := h y (List.mem_of_getElem? (i := i) (by rw [List.getElem?_take, if_pos hij]; exact hi))
  rw [hj] at this
  simpa using this
/-- Each class has a state that stays, which is the first one of it. -/
theorem frN_cov : ∀ (k : Nat) {s : Int}, L[k]? = some s → ∃ (j : Nat) (f : Int), j ≤ k ∧ L[j]? = some f ∧ nw p L j = true ∧ cl p f = cl p s := by
  intro k
  induction k using Nat.strongRecOn with
  | _ k ih =>
    intro s hs
    by_cases h : nw p L k = true
    · exact ⟨k, s, Nat.le_refl _, hs, h, rfl⟩
    · have h2 : ∃ x ∈ L.take k, cl p x = cl p s := by
        apply Classical.byContradiction
        intro h3
        apply h
        unfold nw
        rw [List.all_eq_true]
        intro x hx
        rw [hs]
        simp only [Option.getD_some, bne_iff_ne, ne_eq]
        exact fun e => h3 ⟨x, hx, e⟩
      obtain ⟨x, hx, hc⟩ := h2
      obtain ⟨i, hi⟩ := List.mem_iff_getElem?.1 hx
      rw [List.getElem?_take] at hi
      by_cases hik : i < k
      · rw [if_pos hik] at hi
        obtain ⟨j, f, h4, h5, h6, h7⟩ := ih i hik hi
        exact ⟨j, f, by omega, h5, h6, h7.trans hc⟩
      · rw [if_neg hik] at hi; cases hi
theorem frN_pair (R : Int → Int → Prop) (h : ∀ i j x y, i < j → L[i]? = some x → L[j]? = some y → nw p L j = true → R x y) (hk : k ≤ L.length) : (frN p L k).Pairwise R := by
  unfold frN
  rw [List.pairwise_map]
  refine (List.pairwise_lt_range.filter _).imp_of_mem fun {a b} ha hb hab => ?_
  obtain ⟨h1, _⟩ := List.mem_filter.1 ha
  obtain ⟨h3, h4⟩ := List.mem_filter.1 hb
  have h5 := List.mem_range.1 h1
  have h6 := List.mem_range.1 h3
  have e1 := List.getElem?_eq_getElem (l := L) (i := a) (by omega)
  have e2 := List.getElem?_eq_getElem (l := L) (i := b) (by omega)
  rw [e1, e2]
  exact h a b _ _ hab e1 e2 h4
theorem frN_pre (p L : List Int) : ∀ (j k : Nat), ∃ l, frN p L (k + j) = frN p L k ++ l
  | 0, k => ⟨[], by simp⟩
  | j + 1, k => by
    obtain ⟨l, hl⟩ := frN_pre p L j k
    exact ⟨l ++ _, by rw [show k + (j + 1) = (k + j) + 1 by omega, frN_step, hl, List.append_assoc]⟩
end
/-- The states that stay. -/
noncomputable def fst_ (m : Ma) (L : List Int) : List Int := frN (cls m) L L.length
/-- The map. -/
noncomputable def mpg (m : Ma) (L : List Int) (s : Int) : Int := if s ∈ L then ix ((fst_ m L).map (cl (cls m))) (cl (cls m) s) else -1
/-- The minimal form. -/
noncomputable def mnf (m : Ma) (L : List Int) : Ma := pg m (fst_ m L) (mpg m L)
section
variable {m : Ma} {L : List Int} {s t f : Int} {k : Nat}
theorem cl_iff (v : Val m) (hs : 0 ≤ s ∧ s < m.r.length) (ht : 0 ≤ t ∧ t < m.r.length) : cl (cls m) s = cl (cls m) t ↔ Eqw m s t := by
  obtain ⟨s, rfl⟩ := Int.eq_ofNat_of_zero_le hs.1
  obtain ⟨t, rfl⟩ := Int.eq_ofNat_of_zero_le ht.1
  unfold cl
  rw [Int.toNat_natCast, Int.toNat_natCast]
  constructor
  · intro h w hw
    exact cls_run v (by omega) (by omega) h w hw
  · intro h
    have := (rnd_iff v m.r.length (s := s) (t := t) (by omega) (by omega)).2 fun w hw _ => h w hw
    rwa [cls_all v.r0] at this
theorem fst_mem (h : f ∈ fst_ m L) : f ∈ L := by
  obtain ⟨j, _, h1, _⟩ := (frN_mem (Nat.le_refl _)).1 h
  exact List.mem_of_getElem? h1
theorem fst_cov (h : s ∈ L) : ∃ f ∈ fst_ m L, cl (cls m) f = cl (cls m) s := by
  obtain ⟨k, hk⟩ := List.mem_iff_getElem?.1 h
  obtain ⟨j, f, h1, h2, h3, h4⟩ := frN_cov (p := cls m) k hk
  exact ⟨f, (frN_mem (Nat.le_refl _)).2 ⟨j, (List.getElem?_eq_some_iff.1 h2).1, h2, h3⟩, h4⟩
theorem fst_nd (m : Ma) (L : List Int) : ((fst_ m L).map (cl (cls m))).Nodup := by
  rw [List.Nodup, List.pairwise_map]
  exact frN_pair _ (fun i j x y hij hi hj hn => nw_no hn hj hi hij) (Nat.le_refl _)
theorem mpg_none (h : Cls m L) : mpg m L (-1) = -1 := if_neg fun e => by have := h.rg _ e; omega
theorem mpg_at (hk : (fst_ m L)[k]? = some f) (hs : s ∈ L) (hc : cl (cls m) f = cl (cls m) s) : mpg m L s = k := by
  unfold mpg
  rw [if_pos hs]
  exact ix_at (fst_nd m L) (by rw [List.getElem?_map, hk, Option.map_some, hc])
theorem mpg_fst (hk : (fst_ m L)[k]? = some f) : mpg m L f = k := mpg_at hk (fst_mem (List.mem_of_getElem? hk)) rfl
/-- The minimal form is a machine by classes. -/
theorem fst_qt (v : Val m) (h : Cls m L) : Qt m L (fst_ m L) (mpg m L) := by
  refine ⟨h, mpg_none h, fun s hs => ?_, fun s hs t ht e => ?_⟩
  · obtain ⟨f, hf, hc⟩ := fst_cov (m := m) hs
    obtain ⟨k, hk⟩ := List.mem_iff_getElem?.1 hf
    exact ⟨k, f, mpg_at hk hs hc, hk, fst_mem hf, (cl_iff v (h.rg f (fst_mem hf)) (h.rg s hs)).1 hc⟩
  · unfold mpg
    rw [if_pos hs, if_pos ht, (cl_iff v (h.rg s hs) (h.rg t ht)).2 e]
theorem fst_zero (v : Val m) (h : Ord m L) : (fst_ m L)[0]? = some 0 := by
  have h0 := h.zero v.i0
  have hl := (List.getElem?_eq_some_iff.1 h0).1
  obtain ⟨l, hl2⟩ := frN_pre (cls m) L (L.length - 1) 1
  unfold fst_
  rw [show L.length = 1 + (L.length - 1) by omega, hl2, frN_step, frN_zero, if_pos (by unfold nw; simp), h0]
  rfl
theorem mpg_zero (v : Val m) (h : Ord m L) : mpg m L 0 = 0 := mpg_fst (k := 0) (fst_zero v h)
theorem ord_len (v : Val m) (h : Ord m L) : L.length ≤ 64 := by
  have h1 := nodup_le m.r.length L (h.cls v).nd (h.cls v).rg
  have := v.r1
  omega
theorem fst_len (v : Val m) (h : Ord m L) : 1 ≤ (fst_ m L).length ∧ (fst_ m L).length ≤ L.length := by
  have h0 := (List.getElem?_eq_some_iff.1 (fst_zero v h)).1
  refine ⟨by omega, ?_⟩
  unfold fst_ frN
  rw [List.length_map]
  have := List.length_filter_le (nw (cls m) L) (List.range L.length)
  rwa [List.length_range] at this
theorem mnf_val (v : Val m) (h : Ord m L) : Val (mnf m L) := by
  have h1 := fst_len v h
  have h2 := ord_len v h
  exact (fst_qt v (h.cls v)).val v h1.1 (by omega) fun f hf => fst_mem hf
theorem mnf_sim (v : Val m) (h : Ord m L) {w : List Int} (hw : Wd m w) : aft (mnf m L) 0 w = mpg m L (aft m 0 w) ∧ run (mnf m L) 0 w = run m 0 w := by
  have := (fst_qt v (h.cls v)).sim v w 0 (Or.inr (List.mem_of_getElem? (h.zero v.i0))) hw
  rwa [mpg_zero v h] at this
theorem mnf_st (v : Val m) (h : Ord m L) {w : List Int} (hw : Wd m w) (hs : s ∈ L) : run (mnf m L) (mpg m L s) w = run m s w := ((fst_qt v (h.cls v)).sim v w s (Or.inr hs) hw).2
theorem mnf_len (m : Ma) (L : List Int) : (mnf m L).r.length = (fst_ m L).length := pg_len _ _ _
theorem mpg_inv (he : mpg m L s = k) : s ∈ L ∧ ∃ f, (fst_ m L)[k]? = some f ∧ cl (cls m) f = cl (cls m) s := by
  by_cases hsl : s ∈ L
  · refine ⟨hsl, ?_⟩
    obtain ⟨f, hf, hc⟩ := fst_cov (m := m) hsl
    obtain ⟨j, hj⟩ := List.mem_iff_getElem?.1 hf
    have := mpg_at hj hsl hc
    obtain rfl : j = k := by omega
    exact ⟨f, hj, hc⟩
  · unfold mpg at he
    rw [if_neg hsl] at he
    omega
/-- The access words of the minimal form are those of the states that stay. -/
theorem mnf_lw (v : Val m) (h : Ord m L) (hk : (fst_ m L)[k]? = some f) {w : List Int} (hw : Lw m 0 w f) : Lw (mnf m L) 0 w k := by
  refine ⟨hw.wd, by rw [(mnf_sim v h hw.wd).1, hw.to, mpg_fst hk], fun u hu hto => ?_⟩
  have hu' : Wd m u := hu
  rw [(mnf_sim v h hu').1] at hto
  obtain ⟨h1, f', h2, h3⟩ := mpg_inv hto
  rw [hk] at h2
  injection h2 with h2
  subst h2
  obtain ⟨u', hu2⟩ := h.lw v.i0 h1
  have h4 := hu2.le u hu' rfl
  obtain ⟨j, _, hj, hn⟩ := (frN_mem (Nat.le_refl _)).1 (List.mem_of_getElem? hk)
  obtain ⟨i, hi⟩ := List.mem_iff_getElem?.1 h1
  have h5 : ar m f ≤ ar m (aft m 0 u) := by
    rcases Nat.lt_trichotomy i j with h6 | h6 | h6
    · exact absurd h3.symm (nw_no hn hj hi h6)
    · subst h6
      rw [hi] at hj
      injection hj with hj
      rw [hj]
      exact Int.le_refl _
    · have h7 := (List.getElem?_eq_some_iff.1 hj)
      have h8 := (List.getElem?_eq_some_iff.1 hi)
      have := List.pairwise_iff_getElem.1 h.srt j i h7.1 h8.1 h6
      rw [h7.2, h8.2] at this
      omega
  rw [ar_eq v.i0 hw, ar_eq v.i0 hu2] at h5
  show rk m.i w ≤ rk m.i u
  omega
/-- The minimal form is one. -/
theorem mnf_mnm (v : Val m) (h : Ord m L) : Mnm (mnf m L) := by
  have hc := h.cls v
  have hlw : ∀ (k : Nat), k < (fst_ m L).length → ∃ f w, (fst_ m L)[k]? = some f ∧ Lw m 0 w f := fun k hk => by
    have e := List.getElem?_eq_getElem hk
    obtain ⟨w, hw⟩ := h.lw v.i0 (fst_mem (List.mem_of_getElem? e))
    exact ⟨_, w, e, hw⟩
  refine ⟨mnf_val v h, ⟨fun t => ?_, ?_⟩, fun s t h1 h2 h3 h4 he => ?_⟩
  · rw [mnf_len, rg_mem]
    constructor
    · rintro ⟨h1, h2⟩
      obtain ⟨k, rfl⟩ := Int.eq_ofNat_of_zero_le h1
      obtain ⟨f, w, hf, hw⟩ := hlw k (by omega)
      exact ⟨h1, w, hw.wd, (mnf_lw v h hf hw).to⟩
    · rintro ⟨h1, w, hw, ht⟩
      have hw' : Wd m w := hw
      rw [(mnf_sim v h hw').1] at ht
      obtain ⟨k, rfl⟩ := Int.eq_ofNat_of_zero_le h1
      obtain ⟨_, f, hf, _⟩ := mpg_inv ht
      have := (List.getElem?_eq_some_iff.1 hf).1
      omega
  · rw [mnf_len]
    unfold rg
    rw [List.pairwise_map]
    refine List.pairwise_lt_range.imp_of_mem fun {a b} ha hb hab => ?_
    have ha := List.mem_range.1 ha
    have hb := List.mem_range.1 hb
    obtain ⟨f, w, hf, hw⟩ := hlw a ha
    obtain ⟨f', w', hf', hw'⟩ := hlw b hb
    rw [ar_eq (m := mnf m L) v.i0 (mnf_lw v h hf hw), ar_eq (m := mnf m L) v.i0 (mnf_lw v h hf' hw')]
    show rk m.i w < rk m.i w'
    have hp : (fst_ m L).Pairwise fun x y => ar m x < ar m y := frN_pair _ (fun i j x y hij hi hj _ => by
      have h7 := (List.getElem?_eq_some_iff.1 hi)
      have h8 := (List.getElem?_eq_some_iff.1 hj)
      have := List.pairwise_iff_getElem.1 h.srt i j h7.1 h8.1 hij
      rwa [h7.2, h8.2] at this) (Nat.le_refl _)
    have h5 := List.pairwise_iff_getElem.1 hp a b ha hb hab
    rw [List.getElem?_eq_getElem ha] at hf
    rw [List.getElem?_eq_getElem hb] at hf'
    rw [Option.some.inj hf, Option.some.inj hf', ar_eq v.i0 hw, ar_eq v.i0 hw'] at h5
    exact h5
  · rw [mnf_len] at h2 h4
    obtain ⟨a, rfl⟩ := Int.eq_ofNat_of_zero_le h1
    obtain ⟨b, rfl⟩ := Int.eq_ofNat_of_zero_le h3
    obtain ⟨f, _, hf, _⟩ := hlw a (by omega)
    obtain ⟨f', _, hf', _⟩ := hlw b (by omega)
    have m1 := fst_mem (List.mem_of_getElem? hf)
    have m2 := fst_mem (List.mem_of_getElem? hf')
    have hq : Eqw m f f' := fun w hw => by
      have e1 := mnf_st v h hw m1
      have e2 := mnf_st v h hw m2
      rw [mpg_fst hf] at e1
      rw [mpg_fst hf'] at e2
      rw [← e1, ← e2]
      exact he w hw
    have hcl := (cl_iff v (hc.rg f m1) (hc.rg f' m2)).2 hq
    have e1 := mpg_at hf m2 hcl
    rw [mpg_fst hf'] at e1
    exact e1.symm
theorem mnf_sim_ (v : Val m) (h : Ord m L) : Sim m (mnf m L) := ⟨rfl, fun _ hw => ((mnf_sim v h hw).2).symm⟩
/-- What is minimal is its own minimal form. -/
theorem mnf_own {c : Ma} (h : Mnm c) {L : List Int} (hL : Ord c L) : mnf c L = c :=
  ((mnf_mnm h.val hL).uniq h (mnf_sim_ h.val hL).symm rfl)
/-- Machines with equal responses have the same minimal form. -/
theorem mnf_same {a b : Ma} (va : Val a) (vb : Val b) {L K : List Int} (hL : Ord a L) (hK : Ord b K) (h : Sim a b) (ho : a.o = b.o) : mnf a L = mnf b K := by
  refine (mnf_mnm va hL).uniq (mnf_mnm vb hK) ⟨h.i, fun w hw => ?_⟩ ho
  have hw' : Wd a w := hw
  rw [(mnf_sim va hL hw').2, (mnf_sim vb hK (hw'.of_i h.i)).2]
  exact h.run w hw'
end
end Go.Proofs.Ytgafpmgdpigliaa.Mc

namespace Go.Proofs.Ytgafpmgdpigliaa.Mc
open M (gz Vd rk cnt)

/-- A list is a homomorphism. -/
structure Hom (a b : Ma) (f : List Int) : Prop where
  zero : gz f 0 = 0
  out : ∀ (s i : Nat), s < a.r.length → (i : Int) < a.i → (nx a s i).2 = (nx b (gz f s) i).2
  to : ∀ (s i : Nat), s < a.r.length → (i : Int) < a.i → 0 ≤ (nx a s i).1 → gz f (nx a s i).1.toNat = (nx b (gz f s) i).1
section
variable {a b m : Ma} {f : List Int} {L : List Int}
/-- Homomorphisms keep responses. -/
theorem Hom.run (h : Hom a b f) (va : Val a) (vb : Val b) (hi : a.i = b.i) (hf : ∀ s : Nat, s < a.r.length → 0 ≤ gz f s ∧ gz f s < b.r.length) : ∀ (w : List Int) (s : Nat), s < a.r.length → Wd a w → Mc.run a s w = Mc.run b (gz f s) w
  | [], _, _, _ => rfl
  | c :: w, s, hs, hw => by
    have hc := hw c (by simp)
    have hw' : Wd a w := fun d hd => hw d (by simp [hd])
    obtain ⟨c, rfl⟩ := Int.eq_ofNat_of_zero_le hc.1
    have ho := h.out s c hs hc.2
    have hsa : St a (s : Int) := Or.inr ⟨by omega, by omega⟩
    have hsb : St b (gz f s) := Or.inr (hf s hs)
    show (nx a s c).2 :: Mc.run a (nx a s c).1 w = (nx b (gz f s) c).2 :: Mc.run b (nx b (gz f s) c).1 w
    rw [ho]
    congr 1
    rcases (nx_st va hsa hc).1 with e | ⟨e1, e2⟩
    · have e2 : (nx b (gz f s) c).1 = -1 := by
        rw [nx_none vb hsb ⟨hc.1, by rw [← hi]; exact hc.2⟩, ← ho]
        exact (nx_none va hsa hc).1 e
      rw [e, e2, run_none a w _ (by omega), run_none b w _ (by omega)]
    · have e3 := h.to s c hs hc.2 e1
      obtain ⟨j, hj⟩ := Int.eq_ofNat_of_zero_le e1
      rw [hj, Int.toNat_natCast] at e3
      rw [← e3, hj]
      exact Hom.run h va vb hi hf w j (by omega) hw'
theorem Hom.sim (h : Hom a b f) (va : Val a) (vb : Val b) (hi : a.i = b.i) (hf : ∀ s : Nat, s < a.r.length → 0 ≤ gz f s ∧ gz f s < b.r.length) : Sim a b :=
  ⟨hi, fun w hw => by have := h.run va vb hi hf w 0 va.r0 hw; rwa [h.zero] at this⟩
/-- The map of a machine, as a list. -/
noncomputable def mpl (m : Ma) (L : List Int) : List Int := (List.range m.r.length).map fun (s : Nat) => mpg m L s
theorem mpl_len (m : Ma) (L : List Int) : (mpl m L).length = m.r.length := by simp [mpl]
theorem mpl_gz {s : Nat} (h : s < m.r.length) : gz (mpl m L) s = mpg m L s := by unfold M.gz mpl; simp [h]
theorem mpl_at {s : Nat} (h : s < m.r.length) : (mpl m L)[s]? = some (mpg m L s) := by simp [mpl, h]
/-- All states are reached. -/
def Con (m : Ma) (L : List Int) : Prop := ∀ s : Nat, s < m.r.length → (s : Int) ∈ L
theorem mpl_hom (v : Val m) (h : Ord m L) (hc : Con m L) : Hom m (mnf m L) (mpl m L) := by
  have q := fst_qt v (h.cls v)
  refine ⟨?_, fun s i hs hi => ?_, fun s i hs hi h0 => ?_⟩
  · rw [mpl_gz v.r0]
    exact mpg_zero v h
  · rw [mpl_gz hs, show nx (mnf m L) (mpg m L s) i = _ from q.nx v (hc s hs) (c := (i : Int)) ⟨by omega, hi⟩]
  · rw [mpl_gz hs, show nx (mnf m L) (mpg m L s) i = _ from q.nx v (hc s hs) (c := (i : Int)) ⟨by omega, hi⟩]
    have h1 := (h.cls v).rg _ ((h.cls v).cl s (hc s hs) i (by omega) hi h0)
    obtain ⟨j, hj⟩ := Int.eq_ofNat_of_zero_le h0
    rw [hj] at h1 ⊢
    rw [Int.toNat_natCast, mpl_gz (by omega)]
/-- Minimal: all states are reached, and no two have the same responses. -/
def Mmin (m : Ma) (L : List Int) : Prop := Con m L ∧ ∀ s t : Nat, s < m.r.length → t < m.r.length → gz (cls m) s = gz (cls m) t → s = t
theorem fst_nodup (m : Ma) (L : List Int) : (fst_ m L).Nodup := List.Pairwise.of_map _ (fun _ _ h e => h (by rw [e])) (fst_nd m L)
theorem fst_le (v : Val m) (h : Ord m L) : (fst_ m L).length ≤ m.r.length :=
  nodup_le m.r.length _ (fst_nodup m L) fun f hf => (h.cls v).rg f (fst_mem hf)
/-- A list of n different numbers below n has all of them. -/
theorem all_of_len : ∀ (n : Nat) (l : List Int), l.Nodup → (∀ x ∈ l, 0 ≤ x ∧ x < n) → l.length = n → ∀ s : Nat, s < n → (s : Int) ∈ l := fun n l hd hr hl s hs => by
  apply Classical.byContradiction
  intro hn
  have h1 := nodup_le n ((s : Int) :: l) (List.nodup_cons.2 ⟨hn, hd⟩) (fun x hx => by
    rcases List.mem_cons.1 hx with rfl | hx
    · omega
    · exact hr x hx)
  rw [List.length_cons, hl] at h1
  omega
theorem mmin_iff (v : Val m) (h : Ord m L) : Mmin m L ↔ (fst_ m L).length = m.r.length := by
  have hc := h.cls v
  constructor
  · rintro ⟨h1, h2⟩
    have key : ∀ s ∈ L, s ∈ fst_ m L := fun s hs => by
      obtain ⟨f, hf, e⟩ := fst_cov (m := m) hs
      have r1 := hc.rg s hs
      have r2 := hc.rg f (fst_mem hf)
      obtain ⟨s, rfl⟩ := Int.eq_ofNat_of_zero_le r1.1
      obtain ⟨f, rfl⟩ := Int.eq_ofNat_of_zero_le r2.1
      unfold cl at e
      rw [Int.toNat_natCast, Int.toNat_natCast] at e
      obtain rfl := h2 f s (by omega) (by omega) e
      exact hf
    have h3 := fst_le v h
    rcases Nat.lt_or_ge (fst_ m L).length m.r.length with h4 | h4
    · exfalso
      have hin : ∀ s : Nat, s < m.r.length → (s : Int) ∈ fst_ m L := fun s hs => key _ (h1 s hs)
      have h6 := nodup_le (fst_ m L).length ((rg m.r.length).map (ix (fst_ m L))) (by
        unfold rg
        rw [List.Nodup, List.map_map, List.pairwise_map]
        refine List.pairwise_lt_range.imp_of_mem fun {a b} ha hb hab e => ?_
        have := ix_inj (hin a (List.mem_range.1 ha)) (hin b (List.mem_range.1 hb)) e
        omega) (fun x hx => by
        obtain ⟨y, hy, rfl⟩ := List.mem_map.1 hx
        obtain ⟨h7, h8⟩ := rg_mem.1 hy
        obtain ⟨y, rfl⟩ := Int.eq_ofNat_of_zero_le h7
        refine ⟨?_, ix_lt _⟩
        unfold ix
        rw [if_pos (hin y (by omega))]
        omega)
      simp [rg] at h6
      omega
    · omega
  · intro hl
    have h1 := all_of_len m.r.length _ (fst_nodup m L) (fun x hx => hc.rg x (fst_mem hx)) hl
    refine ⟨fun s hs => fst_mem (h1 s hs), fun s t hs ht e => ?_⟩
    obtain ⟨i, hi⟩ := List.mem_iff_getElem?.1 (h1 s hs)
    obtain ⟨j, hj⟩ := List.mem_iff_getElem?.1 (h1 t ht)
    have e1 := mpg_fst hi
    have e2 := mpg_at hi (fst_mem (h1 t ht)) (by unfold cl; rw [Int.toNat_natCast, Int.toNat_natCast]; exact e)
    rw [mpg_fst hj] at e2
    have e3 : i = j := by omega
    subst e3
    rw [hi] at hj
    injection hj with hj
    omega
/-- The minimal form is minimal. -/
theorem mnm_min {c : Ma} (h : Mnm c) (hL : Ord c L) : Mmin c L := by
  rw [mmin_iff h.val hL, ← mnf_len, mnf_own h hL]
/-- No machine with equal responses has fewer states. -/
theorem mnf_least {a b : Ma} (va : Val a) (vb : Val b) {L K : List Int} (hL : Ord a L) (hK : Ord b K) (h : Sim a b) : (mnf a L).r.length ≤ b.r.length := by
  have h1 := ((mnf_sim_ va hL).symm)
  have h2 : Sim (mnf a L) (mnf b K) := ⟨h.i, fun w hw => by
    have hw' : Wd a w := hw
    rw [(mnf_sim va hL hw').2, (mnf_sim vb hK (hw'.of_i h.i)).2]
    exact h.run w hw'⟩
  rw [h2.len (mnf_mnm va hL) (mnf_mnm vb hK), mnf_len]
  exact fst_le vb hK
end
end Go.Proofs.Ytgafpmgdpigliaa.Mc
