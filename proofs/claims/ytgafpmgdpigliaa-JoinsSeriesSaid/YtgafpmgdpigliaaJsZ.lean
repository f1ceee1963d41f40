/-
  Several texts in one: JsM, JsB. No statement is proved here.
-/
import Derived.Test.YtgafpmgdpigliaaJoM
import Derived.Test.YtgafpmgdpigliaaMnZ
import Derived.Test.YtgafpmgdpigliaaJk0
namespace Go.Proofs.Ytgafpmgdpigliaa.Mc
open Go.RowKit

/-! ### Machines that do the same have one canonical form -/
theorem prt_rowX {m : Ma} (v : Vx m) {l : List Int} {k : Nat} {s : Int} (hk : l[k]? = some s) (h1 : 0 ≤ s) (h2 : s < m.r.length) : (prt m l).r[k]? = some ((List.range m.i.toNat).map fun c : Nat => (ix l (nx m s c).1, (nx m s c).2)) := by
  obtain ⟨s, rfl⟩ := Int.eq_ofNat_of_zero_le h1
  have hs : s < m.r.length := by omega
  show (l.map _)[k]? = _
  rw [List.getElem?_map, hk]
  show some (((m.r[(s : Int).toNat]?).getD []).map _) = _
  rw [Int.toNat_natCast, List.getElem?_eq_getElem hs, Option.getD_some]
  congr 1
  have hl := v.len _ (List.getElem_mem hs)
  refine List.ext_getElem? fun c => ?_
  by_cases hc : c < m.i.toNat
  · have hc' : c < m.r[s].length := by omega
    rw [List.getElem?_map, List.getElem?_map, List.getElem?_range hc, List.getElem?_eq_getElem hc']
    have := nx_at (List.getElem?_eq_getElem hs) (List.getElem?_eq_getElem hc')
    simp only [Option.map_some, this]
  · rw [List.getElem?_eq_none (by rw [List.length_map]; omega), List.getElem?_eq_none (by rw [List.length_map, List.length_range]; omega)]
section
variable {X Y : Ma}
theorem canon_eq (v : Vx X) (v' : Vx Y) (hi : X.i = Y.i) (ho : X.o = Y.o) (hD : ∀ u, Wd X u → (0 ≤ aft X 0 u ↔ 0 ≤ aft Y 0 u))
    (hE : ∀ u w, Wd X u → Wd X w → 0 ≤ aft X 0 u → 0 ≤ aft X 0 w → (aft X 0 u = aft X 0 w ↔ aft Y 0 u = aft Y 0 w)) (hR : ∀ u, Wd X u → run X 0 u = run Y 0 u) : prt X (ord X) = prt Y (ord Y) ∧ (ord X).length = (ord Y).length := by
  have oX := vx_ord v
  have oY := vx_ord v'
  have cX := vx_cls v
  have hW : ∀ u, Wd Y u → Wd X u := fun u hu c hc => by rw [hi]; exact hu c hc
  have hW' : ∀ u, Wd X u → Wd Y u := fun u hu c hc => by rw [← hi]; exact hu c hc
  -- the least word of a state
  have hex : ∀ s, s ∈ ord X → ∃ w, Lw X 0 w s := fun s hs => oX.lw v.i0 hs
  obtain ⟨φ, hφ⟩ : ∃ φ : Int → Int, ∀ s, s ∈ ord X → ∃ w, Lw X 0 w s ∧ φ s = aft Y 0 w := by
    refine ⟨fun s => if h : s ∈ ord X then aft Y 0 (Classical.choose (hex s h)) else 0, fun s hs => ?_⟩
    exact ⟨_, Classical.choose_spec (hex s hs), by simp only [dif_pos hs]⟩
  have h0 : ∀ s, s ∈ ord X → 0 ≤ s := fun s hs => (cX.rg s hs).1
  -- the same words lead there
  have key : ∀ s, s ∈ ord X → ∀ u, Wd X u → (aft X 0 u = s ↔ aft Y 0 u = φ s) := fun s hs u hu => by
    obtain ⟨w, hw, e⟩ := hφ s hs
    have h1 : 0 ≤ aft X 0 w := by rw [hw.to]; exact h0 s hs
    have h2 : 0 ≤ aft Y 0 w := (hD w hw.wd).1 h1
    rw [e]
    constructor
    · intro h
      exact (hE u w hu hw.wd (by rw [h]; exact h0 s hs) h1).1 (by rw [h, hw.to])
    · intro h
      have h3 : 0 ≤ aft X 0 u := (hD u hu).2 (by rw [h]; exact h2)
      have := (hE u w hu hw.wd h3 h1).2 h
      rw [this, hw.to]
  have hinj : ∀ s t, s ∈ ord X → t ∈ ord X → φ s = φ t → s = t := fun s t hs ht e => by
    obtain ⟨w, hw, _⟩ := hφ s hs
    have h1 := (key s hs w hw.wd).1 hw.to
    rw [e] at h1
    exact hw.to.symm.trans ((key t ht w hw.wd).2 h1)
  have hlw : ∀ s, s ∈ ord X → ∀ w, Lw X 0 w s → Lw Y 0 w (φ s) := fun s hs w hw => ⟨hW' w hw.wd, (key s hs w hw.wd).1 hw.to, fun u hu he => by
    have := hw.le u (hW u hu) ((key s hs u (hW u hu)).2 he)
    rwa [hi] at this⟩
  have har : ∀ s, s ∈ ord X → ar Y (φ s) = ar X s := fun s hs => by
    obtain ⟨w, hw, _⟩ := hφ s hs
    rw [ar_eq v.i0 hw, ar_eq v'.i0 (hlw s hs w hw), hi]
  have hpos : ∀ s, s ∈ ord X → 0 ≤ φ s := fun s hs => by
    obtain ⟨w, hw, e⟩ := hφ s hs
    rw [e]
    exact (hD w hw.wd).1 (by rw [hw.to]; exact h0 s hs)
  have hmap : (ord X).map φ = ord Y := by
    refine Ord.uniq (m := Y) ⟨fun t => ⟨fun ht => ?_, fun ⟨h1, w, hw, e⟩ => ?_⟩, ?_⟩ oY
    · obtain ⟨s, hs, rfl⟩ := List.mem_map.1 ht
      obtain ⟨w, hw, _⟩ := hφ s hs
      exact ⟨hpos s hs, w, hW' w hw.wd, (key s hs w hw.wd).1 hw.to⟩
    · have hx : 0 ≤ aft X 0 w := (hD w (hW w hw)).2 (by rw [e]; exact h1)
      have hs : aft X 0 w ∈ ord X := (oX.mem _).2 ⟨hx, w, hW w hw, rfl⟩
      exact List.mem_map.2 ⟨_, hs, ((key _ hs w (hW w hw)).1 rfl).symm.trans e⟩
    · rw [List.pairwise_map]
      refine List.Pairwise.imp_of_mem (fun {a b} ha hb h => ?_) oX.srt
      rw [har a ha, har b hb]
      exact h
  have hlen : (ord X).length = (ord Y).length := by rw [← hmap, List.length_map]
  refine ⟨?_, hlen⟩
  have hr : (prt X (ord X)).r = (prt Y (ord Y)).r := by
    refine List.ext_getElem? fun k => ?_
    by_cases hk : k < (ord X).length
    · obtain ⟨s, hs⟩ : ∃ s, (ord X)[k]? = some s := ⟨_, List.getElem?_eq_getElem hk⟩
      have hsm := List.mem_of_getElem? hs
      have hsY : (ord Y)[k]? = some (φ s) := by rw [← hmap, List.getElem?_map, hs]; rfl
      have g1 := cX.rg s hsm
      have g2 := (vx_cls v').rg _ (List.mem_of_getElem? hsY)
      rw [prt_rowX v hs g1.1 g1.2, prt_rowX v' hsY g2.1 g2.2, ← hi]
      congr 1
      refine List.map_congr_left fun c hc => ?_
      have hc := List.mem_range.1 hc
      have hcc : (0 : Int) ≤ c ∧ (c : Int) < X.i := by omega
      obtain ⟨w, hw, _⟩ := hφ s hsm
      have hwc : Wd X (w ++ [(c : Int)]) := Wd.join hw.wd hcc
      have eX : aft X 0 (w ++ [(c : Int)]) = (nx X s c).1 := by rw [aft_snoc, hw.to]
      have eY : aft Y 0 (w ++ [(c : Int)]) = (nx Y (φ s) c).1 := by rw [aft_snoc, (key s hsm w hw.wd).1 hw.to]
      have hrun := hR _ hwc
      rw [run_app, run_app, hR w hw.wd, hw.to, (key s hsm w hw.wd).1 hw.to] at hrun
      have hout : (nx X s c).2 = (nx Y (φ s) c).2 := by
        have := List.append_cancel_left hrun
        injection this
      rw [hout]
      congr 1
      by_cases hp : 0 ≤ (nx X s c).1
      · have hm : (nx X s c).1 ∈ ord X := (oX.mem _).2 ⟨hp, _, hwc, eX⟩
        have e1 := (key _ hm _ hwc).1 eX
        rw [eY] at e1
        rw [e1]
        obtain ⟨q, hq⟩ := List.mem_iff_getElem?.1 hm
        rw [ix_at cX.nd hq, ix_at (vx_cls v').nd (k := q) (by rw [← hmap, List.getElem?_map, hq]; rfl)]
      · have h1 : (nx X s c).1 ∉ ord X := fun h => hp (h0 _ h)
        have h2 : (nx Y (φ s) c).1 ∉ ord Y := fun h => by
          have h3 := ((vx_cls v').rg _ h).1
          rw [← eY] at h3
          exact hp (by rw [← eX]; exact (hD _ hwc).2 h3)
        rw [ix_none h1, ix_none h2]
    · rw [List.getElem?_eq_none (by rw [prt_len]; omega), List.getElem?_eq_none (by rw [prt_len]; omega)]
  show (⟨X.i, X.o, (prt X (ord X)).r⟩ : Ma) = ⟨Y.i, Y.o, (prt Y (ord Y)).r⟩
  rw [hi, ho, hr]
end
/-! ### The response of machines in series -/
/-- The response to a response, as far as that is defined. -/
def sr (b : Ma) : Int → List Int → List Int
  | _, [] => []
  | t, x :: f => if x < 0 then -1 :: f.map fun _ => -1 else (nx b t x).2 :: sr b (nx b t x).1 f
theorem sr_dead (b : Ma) : ∀ (f : List Int), sr b (-1) f = f.map fun _ => -1
  | [] => rfl
  | x :: f => by
    unfold sr
    split
    · rfl
    · rw [nx_neg (by omega)]
      show -1 :: sr b (-1) f = _
      rw [sr_dead b f]
      rfl
theorem sr_all (b : Ma) : ∀ (f : List Int) (t : Int), (∀ x ∈ f, 0 ≤ x) → sr b t f = run b t f
  | [], _, _ => rfl
  | x :: f, t, h => by
    unfold sr
    rw [if_neg (by have := h x (by simp); omega), sr_all b f _ (fun y hy => h y (by simp [hy]))]
    rfl
theorem cdz {n : Nat} {x y : Int} (h : ¬ (0 ≤ x ∧ 0 ≤ y)) : cd n x y = -1 := by unfold cd; rw [if_neg h]
theorem cdI {n : Nat} {x y x' y' : Int} (hx : 0 ≤ x) (hy : 0 ≤ y ∧ y < n) (hx' : 0 ≤ x') (hy' : 0 ≤ y' ∧ y' < n) (h : cd n x y = cd n x' y') : x = x' ∧ y = y' := by
  obtain ⟨x, rfl⟩ := Int.eq_ofNat_of_zero_le hx
  obtain ⟨y, rfl⟩ := Int.eq_ofNat_of_zero_le hy.1
  obtain ⟨x', rfl⟩ := Int.eq_ofNat_of_zero_le hx'
  obtain ⟨y', rfl⟩ := Int.eq_ofNat_of_zero_le hy'.1
  rw [cd_nat, cd_nat] at h
  obtain ⟨h1, h2⟩ := cd_inj (by omega) (by omega) (show x * n + y = x' * n + y' by omega)
  exact ⟨by rw [h1], by rw [h2]⟩
theorem cd_nn {n : Nat} {x y : Int} : 0 ≤ cd n x y ↔ 0 ≤ x ∧ 0 ≤ y := by
  unfold cd
  split
  · rename_i h
    have : 0 ≤ x * n := Int.mul_nonneg h.1 (by omega)
    exact ⟨fun _ => h, fun _ => by omega⟩
  · rename_i h
    exact ⟨fun h1 => by omega, fun h1 => absurd h1 h⟩
section
variable {a b c : Ma}
theorem ser_nx (va : Val a) (vb : Val b) (h : a.o = b.i) {s t x : Int} (hs : St a s) (ht : St b t) (hx : 0 ≤ x ∧ x < a.i) :
    nx (ser a b) (cd b.r.length s t) x = (cd b.r.length (nx a s x).1 (nx b t (nx a s x).2).1, if (nx a s x).2 < 0 then -1 else (nx b t (nx a s x).2).2) := by
  have ha := nx_st va hs hx
  rcases hs with rfl | hs
  · rw [cdz (by omega), nx_neg (m := ser a b) (by omega), nx_neg (m := a) (by omega)]
    show nE = (cd _ (-1) _, if (-1 : Int) < 0 then _ else _)
    rw [cdz (by omega), if_pos (by decide)]
  · rcases ht with rfl | ht
    · rw [cdz (by omega), nx_neg (m := ser a b) (by omega), nx_neg (m := b) (by omega)]
      show nE = (cd _ _ (-1), if _ then (-1 : Int) else -1)
      rw [cdz (by omega), ite_self]
    · obtain ⟨s, rfl⟩ := Int.eq_ofNat_of_zero_le hs.1
      obtain ⟨t, rfl⟩ := Int.eq_ofNat_of_zero_le ht.1
      obtain ⟨x, rfl⟩ := Int.eq_ofNat_of_zero_le hx.1
      rw [cd_nat]
      have hn : nx (ser a b) ((s * b.r.length + t : Nat) : Int) (x : Int) = jE b.r.length (serF a b s t x) := jm_at (by omega) (by omega) hx.2
      rw [hn]
      unfold serF
      by_cases h1 : (nx a s x).1 = -1
      · have h2 := ha.2.1 h1
        rw [if_pos h1, jE_none (Or.inl rfl), h1, h2, cdz (by omega), if_pos (by decide)]
      · have h2 : 0 ≤ (nx a s x).1 := by rcases ha.1 with e | e <;> omega
        have h3 := ha.2.2.2.2 h2
        have hb := nx_st vb (s := (t : Int)) (i := (nx a s x).2) (Or.inr ⟨by omega, ht.2⟩) ⟨h3, by rw [← h]; exact ha.2.2.2.1⟩
        rw [if_neg h1, if_neg (show ¬ (nx a s x).2 < 0 by omega)]
        obtain ⟨u, hu⟩ := Int.eq_ofNat_of_zero_le h2
        by_cases h4 : (nx b t (nx a s x).2).1 = -1
        · rw [jE_none (Or.inr h4), h4, hb.2.1 h4, cdz (by omega)]
        · have h5 : 0 ≤ (nx b t (nx a s x).2).1 := by rcases hb.1 with e | e <;> omega
          obtain ⟨w, hw⟩ := Int.eq_ofNat_of_zero_le h5
          rw [jE_some hu hw, hu, hw, cd_nat]
theorem nx_out_neg (va : Val a) {s x : Int} (hs : St a s) (hx : 0 ≤ x ∧ x < a.i) : (nx a s x).2 < 0 ↔ (nx a s x).1 = -1 := by
  have h := nx_st va hs hx
  constructor
  · intro h1
    rcases h.1 with e | e
    · exact e
    · have := h.2.2.2.2 e.1; omega
  · intro h1
    have := h.2.1 h1
    omega
theorem ser_run (va : Val a) (vb : Val b) (h : a.o = b.i) : ∀ (w : List Int) (s t : Int), St a s → St b t → Wd a w → run (ser a b) (cd b.r.length s t) w = sr b t (run a s w)
  | [], _, _, _, _, _ => rfl
  | x :: w, s, t, hs, ht, hw => by
    have hx := hw x (by simp)
    have hw' : Wd a w := fun d hd => hw d (by simp [hd])
    have ha := nx_st va hs hx
    show (nx (ser a b) _ x).2 :: run (ser a b) (nx (ser a b) _ x).1 w = sr b t ((nx a s x).2 :: run a (nx a s x).1 w)
    rw [ser_nx va vb h hs ht hx]
    unfold sr
    by_cases h1 : (nx a s x).2 < 0
    · have h2 := (nx_out_neg va hs hx).1 h1
      rw [if_pos h1, if_pos h1, h2]
      show -1 :: run (ser a b) (cd b.r.length (-1) (nx b t (nx a s x).2).1) w = _
      rw [cdz (by omega), run_none _ _ _ (by omega), run_none _ _ _ (by omega), List.map_map]
      rfl
    · rw [if_neg h1, if_neg h1]
      have h2 : 0 ≤ (nx a s x).2 := by omega
      have hb := nx_st vb ht (i := (nx a s x).2) ⟨h2, by rw [← h]; exact ha.2.2.2.1⟩
      show (nx b t (nx a s x).2).2 :: run (ser a b) (cd b.r.length (nx a s x).1 (nx b t (nx a s x).2).1) w = _
      rw [ser_run va vb h w _ _ ha.1 hb.1 hw']
theorem run_pos (va : Val a) : ∀ (w : List Int) (s : Int), St a s → Wd a w → 0 ≤ aft a s w → ∀ x ∈ run a s w, 0 ≤ x ∧ x < a.o
  | [], _, _, _, _, x, hx => by cases hx
  | c :: w, s, hs, hw, h, x, hx => by
    have hc := hw c (by simp)
    have ha := nx_st va hs hc
    have hw' : Wd a w := fun d hd => hw d (by simp [hd])
    rcases List.mem_cons.1 (show x ∈ (nx a s c).2 :: run a (nx a s c).1 w from hx) with rfl | hx
    · refine ⟨?_, ha.2.2.2.1⟩
      rcases ha.1 with e | e
      · exfalso
        have : aft a s (c :: w) = aft a (nx a s c).1 w := rfl
        rw [this, e, aft_none _ _ _ rfl] at h
        omega
      · exact ha.2.2.2.2 e.1
    · exact run_pos va w _ ha.1 hw' h x hx
theorem ser_aft (va : Val a) (vb : Val b) (h : a.o = b.i) : ∀ (w : List Int) (s t : Int), St a s → St b t → Wd a w → aft (ser a b) (cd b.r.length s t) w = cd b.r.length (aft a s w) (aft b t (run a s w))
  | [], _, _, _, _, _ => rfl
  | x :: w, s, t, hs, ht, hw => by
    have hx := hw x (by simp)
    have hw' : Wd a w := fun d hd => hw d (by simp [hd])
    have ha := nx_st va hs hx
    show aft (ser a b) (nx (ser a b) _ x).1 w = cd b.r.length (aft a (nx a s x).1 w) (aft b (nx b t (nx a s x).2).1 (run a (nx a s x).1 w))
    rw [ser_nx va vb h hs ht hx]
    by_cases h1 : (nx a s x).2 < 0
    · have h2 := (nx_out_neg va hs hx).1 h1
      rw [h2]
      show aft (ser a b) (cd b.r.length (-1) (nx b t (nx a s x).2).1) w = _
      rw [cdz (by omega), aft_none _ _ _ rfl, aft_none _ _ _ rfl, cdz (by omega)]
    · have h2 : 0 ≤ (nx a s x).2 := by omega
      have hb := nx_st vb ht (i := (nx a s x).2) ⟨h2, by rw [← h]; exact ha.2.2.2.1⟩
      exact ser_aft va vb h w _ _ ha.1 hb.1 hw'
/-- Three machines. -/
theorem sr_sr (vb : Val b) (vc : Val c) (h : b.o = c.i) : ∀ (f : List Int) (s t : Int), St b s → St c t → (∀ x ∈ f, x < b.i) → sr c t (sr b s f) = sr (ser b c) (cd c.r.length s t) f
  | [], _, _, _, _, _ => rfl
  | x :: f, s, t, hs, ht, hf => by
    have hx := hf x (by simp)
    have hf' : ∀ y ∈ f, y < b.i := fun y hy => hf y (by simp [hy])
    by_cases h0 : x < 0
    · show sr c t (if x < 0 then _ else _) = if x < 0 then _ else _
      rw [if_pos h0, if_pos h0]
      show (if (-1 : Int) < 0 then _ else _) = _
      rw [if_pos (by decide), List.map_map]
      rfl
    · have hxx : 0 ≤ x ∧ x < b.i := ⟨by omega, hx⟩
      have hb := nx_st vb hs hxx
      show sr c t (if x < 0 then _ else _) = if x < 0 then _ else _
      rw [if_neg h0, if_neg h0, ser_nx vb vc h hs ht hxx]
      show (if (nx b s x).2 < 0 then _ else _) = _
      by_cases h1 : (nx b s x).2 < 0
      · have h2 := (nx_out_neg vb hs hxx).1 h1
        rw [if_pos h1, if_pos h1, h2]
        show -1 :: (sr b (-1) f).map (fun _ => -1) = -1 :: sr (ser b c) (cd c.r.length (-1) (nx c t (nx b s x).2).1) f
        rw [cdz (by omega), sr_dead, sr_dead, List.map_map]
        rfl
      · rw [if_neg h1, if_neg h1]
        have h2 : 0 ≤ (nx b s x).2 := by omega
        have hc := nx_st vc ht (i := (nx b s x).2) ⟨h2, by rw [← h]; exact hb.2.2.2.1⟩
        show _ :: sr c (nx c t (nx b s x).2).1 (sr b (nx b s x).1 f) = _ :: sr (ser b c) (cd c.r.length (nx b s x).1 (nx c t (nx b s x).2).1) f
        rw [sr_sr vb vc h f _ _ hb.1 hc.1 hf']
end
theorem sr_prt {m : Ma} (v : Vx m) {l : List Int} (h : Cls m l) : ∀ (f : List Int) (s : Int), s = -1 ∨ s ∈ l → (∀ x ∈ f, x < m.i) → sr (prt m l) (ix l s) f = sr m s f
  | [], _, _, _ => rfl
  | x :: f, s, hs, hf => by
    have hx := hf x (by simp)
    have hf' : ∀ y ∈ f, y < m.i := fun y hy => hf y (by simp [hy])
    rcases hs with rfl | hs
    · have hn : (-1 : Int) ∉ l := fun e => by have := (h.rg _ e).1; omega
      rw [ix_none hn, sr_dead, sr_dead]
    · by_cases h0 : x < 0
      · show (if x < 0 then _ else _) = if x < 0 then _ else _
        rw [if_pos h0, if_pos h0]
      · show (if x < 0 then _ else _) = if x < 0 then _ else _
        rw [if_neg h0, if_neg h0]
        obtain ⟨k, hk⟩ := List.mem_iff_getElem?.1 hs
        have hxx : 0 ≤ x ∧ x < m.i := ⟨by omega, hx⟩
        rw [ix_at h.nd hk, nx_prtX v h hk hxx]
        have hst := nx_stX v (s := s) (i := x) (Or.inr (h.rg s hs)) hxx
        have hnx : (nx m s x).1 = -1 ∨ (nx m s x).1 ∈ l := by
          rcases hst.1 with e | e
          · exact Or.inl e
          · exact Or.inr (h.cl s hs x hxx.1 hxx.2 e.1)
        show _ :: sr (prt m l) (ix l (nx m s x).1) f = _
        rw [sr_prt v h f _ hnx hf']
/-! ### Which two are put together first does not matter -/
/-- The canonical form. -/
abbrev cn (m : Ma) : Ma := prt m (ord m)
section
variable {a b c : Ma}
theorem cd00 (n : Nat) : cd n 0 0 = 0 := by
  have := cd_nat n 0 0
  simpa using this
theorem st0 (v : Val a) : St a 0 := Or.inr ⟨by omega, by have := v.r0; omega⟩
theorem aft_ge (va : Val a) {w : List Int} {s : Int} (hs : St a s) (hw : Wd a w) : aft a s w = -1 ∨ (0 ≤ aft a s w ∧ aft a s w < a.r.length) := aft_stX va.vx w s hs hw
theorem cn_aft {m : Ma} (v : Vx m) {w : List Int} (hw : Wd m w) : aft (cn m) 0 w = ix (ord m) (aft m 0 w) := (prt_aftX v (vx_cls v) ((vx_ord v).zero v.i0) hw).1
theorem cn_nn {m : Ma} (v : Vx m) {w : List Int} (hw : Wd m w) : 0 ≤ aft (cn m) 0 w ↔ 0 ≤ aft m 0 w := by
  rw [cn_aft v hw]
  constructor
  · intro h
    rcases aft_stX v w 0 (Or.inr ⟨by omega, by have := v.r0; omega⟩) hw with e | e
    · rw [e, ix_none (fun e => by have := ((vx_cls v).rg _ e).1; omega)] at h
      omega
    · exact e.1
  · intro h
    have hm : aft m 0 w ∈ ord m := ((vx_ord v).mem _).2 ⟨h, w, hw, rfl⟩
    obtain ⟨k, hk⟩ := List.mem_iff_getElem?.1 hm
    rw [ix_at (vx_cls v).nd hk]
    omega
theorem cn_inj {m : Ma} (v : Vx m) {u w : List Int} (hu : Wd m u) (hw : Wd m w) (h1 : 0 ≤ aft m 0 u) (h2 : 0 ≤ aft m 0 w) : aft (cn m) 0 u = aft (cn m) 0 w ↔ aft m 0 u = aft m 0 w := by
  rw [cn_aft v hu, cn_aft v hw]
  exact ⟨fun h => ix_inj (((vx_ord v).mem _).2 ⟨h1, u, hu, rfl⟩) (((vx_ord v).mem _).2 ⟨h2, w, hw, rfl⟩) h, fun h => by rw [h]⟩
/-- What three machines in series do. -/
structure Sx (a b c : Ma) (u : List Int) : Prop where
  p : 0 ≤ aft a 0 u
  q : 0 ≤ aft b 0 (run a 0 u)
  r : 0 ≤ aft c 0 (run b 0 (run a 0 u))
theorem ser_any (va : Val a) (vb : Val b) (h : a.o = b.i) {u : List Int} (hu : Wd a u) : (0 ≤ aft (ser a b) 0 u ↔ 0 ≤ aft a 0 u ∧ 0 ≤ aft b 0 (run a 0 u)) ∧ aft (ser a b) 0 u = cd b.r.length (aft a 0 u) (aft b 0 (run a 0 u)) ∧ run (ser a b) 0 u = sr b 0 (run a 0 u) ∧ (0 ≤ aft a 0 u → run (ser a b) 0 u = run b 0 (run a 0 u) ∧ Wd b (run a 0 u)) := by
  have h1 := ser_aft va vb h u 0 0 (st0 va) (st0 vb) hu
  have h2 := ser_run va vb h u 0 0 (st0 va) (st0 vb) hu
  rw [cd00] at h1 h2
  refine ⟨by rw [h1]; exact cd_nn, h1, h2, fun h3 => ?_⟩
  have h4 := run_pos va u 0 (st0 va) hu h3
  exact ⟨by rw [h2, sr_all b _ _ fun x hx => (h4 x hx).1], fun x hx => by rw [← h]; exact h4 x hx⟩
theorem ser_assoc (va : Val a) (vb : Val b) (vc : Val c) (hab : a.o = b.i) (hbc : b.o = c.i) (VP : Val (cn (ser a b))) (VQ : Val (cn (ser b c))) :
    cn (ser (cn (ser a b)) c) = cn (ser a (cn (ser b c))) ∧ (ord (ser (cn (ser a b)) c)).length = (ord (ser a (cn (ser b c)))).length := by
  have vP := ser_vx va vb hab
  have vQ := ser_vx vb vc hbc
  have hPc : (cn (ser a b)).o = c.i := hbc
  have haQ : a.o = (cn (ser b c)).i := hab
  have vX := ser_vx VP vc hPc
  have vY := ser_vx va VQ haQ
  -- a word over the inputs
  have hX : ∀ u, Wd a u → (0 ≤ aft (ser (cn (ser a b)) c) 0 u ↔ Sx a b c u) ∧ (Sx a b c u → aft (ser (cn (ser a b)) c) 0 u = cd c.r.length (aft (cn (ser a b)) 0 u) (aft c 0 (run b 0 (run a 0 u))) ∧ 0 ≤ aft (ser a b) 0 u ∧ aft (ser a b) 0 u = cd b.r.length (aft a 0 u) (aft b 0 (run a 0 u))) := fun u hu => by
    have huP : Wd (ser a b) u := hu
    have huC : Wd (cn (ser a b)) u := hu
    obtain ⟨x1, x2, x3, _⟩ := ser_any VP vc hPc huC
    obtain ⟨y1, y2, y3, y4⟩ := ser_any va vb hab hu
    have hr : run (cn (ser a b)) 0 u = run (ser a b) 0 u := vx_run vP huP
    rw [hr] at x1 x2
    rw [cn_nn vP huP, y1] at x1
    constructor
    · constructor
      · intro h
        obtain ⟨⟨h1, h2⟩, h3⟩ := x1.1 h
        rw [(y4 h1).1] at h3
        exact ⟨h1, h2, h3⟩
      · intro h
        exact x1.2 ⟨⟨h.p, h.q⟩, by rw [(y4 h.p).1]; exact h.r⟩
    · intro h
      rw [(y4 h.p).1] at x2
      exact ⟨x2, y1.2 ⟨h.p, h.q⟩, y2⟩
  have hY : ∀ u, Wd a u → (0 ≤ aft (ser a (cn (ser b c))) 0 u ↔ Sx a b c u) ∧ (Sx a b c u → aft (ser a (cn (ser b c))) 0 u = cd (cn (ser b c)).r.length (aft a 0 u) (aft (cn (ser b c)) 0 (run a 0 u)) ∧ Wd b (run a 0 u) ∧ 0 ≤ aft (ser b c) 0 (run a 0 u) ∧ aft (ser b c) 0 (run a 0 u) = cd c.r.length (aft b 0 (run a 0 u)) (aft c 0 (run b 0 (run a 0 u)))) := fun u hu => by
    obtain ⟨x1, x2, x3, x4⟩ := ser_any va VQ haQ hu
    constructor
    · constructor
      · intro h
        obtain ⟨h1, h2⟩ := x1.1 h
        have hw : Wd b (run a 0 u) := (x4 h1).2
        obtain ⟨y1, y2, y3, y4⟩ := ser_any vb vc hbc hw
        rw [cn_nn vQ hw] at h2
        obtain ⟨h3, h4⟩ := y1.1 h2
        exact ⟨h1, h3, h4⟩
      · intro h
        have hw : Wd b (run a 0 u) := (x4 h.p).2
        obtain ⟨y1, y2, y3, y4⟩ := ser_any vb vc hbc hw
        exact x1.2 ⟨h.p, (cn_nn vQ hw).2 (y1.2 ⟨h.q, h.r⟩)⟩
    · intro h
      have hw : Wd b (run a 0 u) := (x4 h.p).2
      obtain ⟨y1, y2, y3, y4⟩ := ser_any vb vc hbc hw
      exact ⟨x2, hw, y1.2 ⟨h.q, h.r⟩, y2⟩
  refine canon_eq vX vY rfl rfl (fun u hu => (hX u hu).1.trans (hY u hu).1.symm) (fun u w hu hw h1 h2 => ?_) (fun u hu => ?_)
  · have s1 := (hX u hu).1.1 h1
    have s2 := (hX w hw).1.1 h2
    obtain ⟨e1, e2, e3⟩ := (hX u hu).2 s1
    obtain ⟨f1, f2, f3⟩ := (hX w hw).2 s2
    obtain ⟨g1, g2, g3, g4⟩ := (hY u hu).2 s1
    obtain ⟨k1, k2, k3, k4⟩ := (hY w hw).2 s2
    have hb : ∀ v, Wd a v → Sx a b c v → (0 ≤ aft b 0 (run a 0 v) ∧ aft b 0 (run a 0 v) < b.r.length) ∧ (0 ≤ aft c 0 (run b 0 (run a 0 v)) ∧ aft c 0 (run b 0 (run a 0 v)) < c.r.length) := fun v hv s => by
      have w1 := run_pos va v 0 (st0 va) hv s.p
      have wb : Wd b (run a 0 v) := fun x hx => by rw [← hab]; exact w1 x hx
      have w2 := run_pos vb _ 0 (st0 vb) wb s.q
      have wc : Wd c (run b 0 (run a 0 v)) := fun x hx => by rw [← hbc]; exact w2 x hx
      have j1 := aft_ge vb (st0 vb) wb
      have j2 := aft_ge vc (st0 vc) wc
      have := s.q
      have := s.r
      exact ⟨by omega, by omega⟩
    have hcQ : ∀ v, Wd b v → 0 ≤ aft (ser b c) 0 v → 0 ≤ aft (cn (ser b c)) 0 v ∧ aft (cn (ser b c)) 0 v < (cn (ser b c)).r.length := fun v hv h => by
      have h3 := (cn_nn vQ (w := v) hv).2 h
      have := aft_ge VQ (st0 VQ) (w := v) hv
      omega
    obtain ⟨bu, cu⟩ := hb u hu s1
    obtain ⟨bw, cw⟩ := hb w hw s2
    constructor
    · intro h
      rw [e1, f1] at h
      obtain ⟨h3, h4⟩ := cdI ((cn_nn vP (w := u) hu).2 e2) cu ((cn_nn vP (w := w) hw).2 f2) cw h
      rw [cn_inj vP (u := u) (w := w) hu hw e2 f2, e3, f3] at h3
      obtain ⟨h5, h6⟩ := cdI s1.p bu s2.p bw h3
      rw [g1, k1, h5]
      congr 1
      rw [cn_inj vQ g2 k2 g3 k3, g4, k4, h6, h4]
    · intro h
      rw [g1, k1] at h
      obtain ⟨h3, h4⟩ := cdI s1.p (hcQ _ g2 g3) s2.p (hcQ _ k2 k3) h
      rw [cn_inj vQ g2 k2 g3 k3, g4, k4] at h4
      obtain ⟨h5, h6⟩ := cdI s1.q cu s2.q cw h4
      have h7 : aft (cn (ser a b)) 0 u = aft (cn (ser a b)) 0 w := by rw [cn_inj vP (u := u) (w := w) hu hw e2 f2, e3, f3, h3, h5]
      rw [e1, f1, h6, h7]
  · obtain ⟨_, _, x3, _⟩ := ser_any VP vc hPc (u := u) hu
    obtain ⟨_, _, y3, _⟩ := ser_any va vb hab (u := u) hu
    obtain ⟨_, _, z3, _⟩ := ser_any va VQ haQ (u := u) hu
    have hr : run (cn (ser a b)) 0 u = run (ser a b) 0 u := vx_run vP hu
    rw [x3, hr, y3, z3]
    have hf : ∀ x ∈ run a 0 u, x < b.i := fun x hx => by
      have h9 : ∀ (w : List Int) (s : Int), St a s → Wd a w → ∀ x ∈ run a s w, x < a.o := by
        intro w
        induction w with
        | nil => intro s _ _ x hx; cases hx
        | cons d w ih =>
          intro s hs hw x hx
          have hd := nx_st va hs (hw d (by simp))
          rcases List.mem_cons.1 (show x ∈ (nx a s d).2 :: run a (nx a s d).1 w from hx) with rfl | hx
          · exact hd.2.2.2.1
          · exact ih _ hd.1 (fun y hy => hw y (by simp [hy])) x hx
      rw [← hab]
      exact h9 u 0 (st0 va) hu x hx
    have h1 := sr_sr vb vc hbc (run a 0 u) 0 0 (st0 vb) (st0 vc) hf
    rw [cd00] at h1
    rw [h1]
    have hz : ix (ord (ser b c)) 0 = 0 := by
      have := ix_at (vx_cls vQ).nd ((vx_ord vQ).zero vQ.i0)
      simpa using this
    have h2 := sr_prt vQ (vx_cls vQ) (run a 0 u) 0 (Or.inr (List.mem_of_getElem? ((vx_ord vQ).zero vQ.i0))) hf
    rw [hz] at h2
    exact h2.symm
end
end Go.Proofs.Ytgafpmgdpigliaa.Mc

namespace Go.Proofs.Ytgafpmgdpigliaa
open Go.RowKit
open Mc (Ed Ma)

/-! ### Five cells are written -/
abbrev set5 (w : World) (g : Nat) (v0 v1 v2 v3 v4 : Value) : World := ((((w.setCell ⟨g, 0, none⟩ v0).setCell ⟨g, 1, none⟩ v1).setCell ⟨g, 2, none⟩ v2).setCell ⟨g, 3, none⟩ v3).setCell ⟨g, 4, none⟩ v4
theorem below_set5 {B : Nat} {a w : World} (h : Below B a w) {g : Nat} (hg : B ≤ g) (v0 v1 v2 v3 v4 : Value) : Below B a (set5 w g v0 v1 v2 v3 v4) :=
  ((((h.setCell (p := ⟨g, 0, none⟩) hg v0).setCell (p := ⟨g, 1, none⟩) hg v1).setCell (p := ⟨g, 2, none⟩) hg v2).setCell (p := ⟨g, 3, none⟩) hg v3).setCell (p := ⟨g, 4, none⟩) hg v4
theorem set5_far {w : World} {g q : Nat} (h : q ≠ g) (v0 v1 v2 v3 v4 : Value) : (set5 w g v0 v1 v2 v3 v4).heap[q]? = w.heap[q]? := by
  show (((((w.setCell ⟨g, 0, none⟩ v0).setCell ⟨g, 1, none⟩ v1).setCell ⟨g, 2, none⟩ v2).setCell ⟨g, 3, none⟩ v3).setCell ⟨g, 4, none⟩ v4).heap[q]? = _
  rw [Below.heap_setCell _ _ _ _ (show q ≠ g from h), Below.heap_setCell _ _ _ _ (show q ≠ g from h), Below.heap_setCell _ _ _ _ (show q ≠ g from h), Below.heap_setCell _ _ _ _ (show q ≠ g from h), Below.heap_setCell _ _ _ _ (show q ≠ g from h)]
theorem set1_block {w : World} {g k : Nat} {cs : Array Value} {T : TypeId} {fr : Nat × Nat} (h : w.heap[g]? = some (.cells cs T fr)) (v : Value) : (w.setCell ⟨g, k, none⟩ v).heap[g]? = some (.cells (cs.setIfInBounds k v) T fr) := by
  simp [World.setCell, Array.getElem?_modify, h]
theorem set5_block {w : World} {g : Nat} {cs : Array Value} {T : TypeId} {fr : Nat × Nat} (h : w.heap[g]? = some (.cells cs T fr)) (v0 v1 v2 v3 v4 : Value) : (set5 w g v0 v1 v2 v3 v4).heap[g]? = some (.cells (((((cs.setIfInBounds 0 v0).setIfInBounds 1 v1).setIfInBounds 2 v2).setIfInBounds 3 v3).setIfInBounds 4 v4) T fr) :=
  set1_block (set1_block (set1_block (set1_block (set1_block h v0) v1) v2) v3) v4
theorem BxX.set5_ {w : World} {g n c n' c' : Nat} {a b d a' b' d' : Int} {p p' : Bool} {A A' : Option Addr} (h : BxX w g a b d p A n c) : BxX (set5 w g (.int .u8 a') (.int .u8 b') (.int .u8 d') (.bool p') (.slice A' n' c')) g a' b' d' p' A' n' c' := set5_block h _ _ _ _ _
theorem set5_reads {w : World} {g : Nat} {c0 c1 c2 c3 c4 : Value} {T : TypeId} {fr : Nat × Nat} (h : w.heap[g]? = some (.cells #[c0, c1, c2, c3, c4] T fr)) (v0 v1 v2 v3 v4 : Value) :
    (w.setCell ⟨g, 0, none⟩ v0).cell? ⟨g, 0, none⟩ = some v0 ∧ ((w.setCell ⟨g, 0, none⟩ v0).setCell ⟨g, 1, none⟩ v1).cell? ⟨g, 1, none⟩ = some v1 ∧ (((w.setCell ⟨g, 0, none⟩ v0).setCell ⟨g, 1, none⟩ v1).setCell ⟨g, 2, none⟩ v2).cell? ⟨g, 2, none⟩ = some v2 ∧ ((((w.setCell ⟨g, 0, none⟩ v0).setCell ⟨g, 1, none⟩ v1).setCell ⟨g, 2, none⟩ v2).setCell ⟨g, 3, none⟩ v3).cell? ⟨g, 3, none⟩ = some v3 ∧ (set5 w g v0 v1 v2 v3 v4).cell? ⟨g, 4, none⟩ = some v4 := by
  have h0 := set1_block (k := 0) h v0
  have h1 := set1_block (k := 1) h0 v1
  have h2 := set1_block (k := 2) h1 v2
  have h3 := set1_block (k := 3) h2 v3
  have h4 := set1_block (k := 4) h3 v4
  refine ⟨?_, ?_, ?_, ?_, ?_⟩
  · rw [cell_of_row _ _ _ _ _ _ h0]; rfl
  · rw [cell_of_row _ _ _ _ _ _ h1]; rfl
  · rw [cell_of_row _ _ _ _ _ _ h2]; rfl
  · rw [cell_of_row _ _ _ _ _ _ h3]; rfl
  · rw [cell_of_row _ _ _ _ _ _ h4]; rfl
/-- The box of a machine and a word as plain data. -/
def BxZ (w : World) (g : Nat) (a b d : Int) (p : Bool) (A : Option Addr) (n c : Nat) (B : Option Addr) (m e : Nat) : Prop := w.heap[g]? = some (.cells #[.int .u8 a, .int .u8 b, .int .u8 d, .bool p, .slice A n c, .slice B m e] 54)
section
variable {w w' : World} {g n c m e n' c' : Nat} {a b d a' b' d' : Int} {p p' : Bool} {A B A' : Option Addr}
theorem BxZ.below (h : BxZ w g a b d p A n c B m e) (hb : Below w.heap.size w w') : BxZ w' g a b d p A n c B m e := (hb.block _ (heap_lt h)).trans h
theorem BxZ.cells (h : BxZ w g a b d p A n c B m e) : w.cell? ⟨g, 0, none⟩ = some (.int .u8 a) ∧ w.cell? ⟨g, 1, none⟩ = some (.int .u8 b) ∧ w.cell? ⟨g, 2, none⟩ = some (.int .u8 d) ∧ w.cell? ⟨g, 3, none⟩ = some (.bool p) ∧ w.cell? ⟨g, 4, none⟩ = some (.slice A n c) ∧ w.cell? ⟨g, 5, none⟩ = some (.slice B m e) := by
  refine ⟨?_, ?_, ?_, ?_, ?_, ?_⟩ <;> (rw [cell_of_row _ _ _ _ _ _ h]; rfl)
theorem BxZ.frozen (h : BxZ w g a b d p A n c B m e) (k : Nat) : w.frozen? ⟨g, k, none⟩ = false := by
  unfold BxZ at h
  simp [World.frozen?, h]
theorem BxZ.far (h : BxZ w g a b d p A n c B m e) {G : Nat} (hne : g ≠ G) (v0 v1 v2 v3 v4 : Value) : BxZ (set5 w G v0 v1 v2 v3 v4) g a b d p A n c B m e := (set5_far hne _ _ _ _ _).trans h
theorem BxZ.set5_ (h : BxZ w g a b d p A n c B m e) : BxZ (set5 w g (.int .u8 a') (.int .u8 b') (.int .u8 d') (.bool p') (.slice A' n' c')) g a' b' d' p' A' n' c' B m e := set5_block h _ _ _ _ _
theorem BxX.far5 (h : BxX w g a b d p A n c) {G : Nat} (hne : g ≠ G) (v0 v1 v2 v3 v4 : Value) : BxX (set5 w G v0 v1 v2 v3 v4) g a b d p A n c := (set5_far hne _ _ _ _ _).trans h
end
set_option maxRecDepth 100000 in
set_option maxHeartbeats 2000000 in
theorem jbehind_any (a b d : Int) (p : Bool) (A : Option Addr) (n c : Nat) (a' b' d' : Int) (p' : Bool) (A' : Option Addr) (n' c' : Nat) (w : World) :
    Calls Try.prog 15 #[.agg #[.int .u8 a, .int .u8 b, .int .u8 d, .bool p, .slice A n c], .agg #[.int .u8 a', .int .u8 b', .int .u8 d', .bool p', .slice A' n' c']] w fun e w' => e = .returned (.agg #[.int .u8 a', .int .u8 d, .int .u8 d', .bool p', .slice A' n' c']) ∧ Below w.heap.size w w' := by
  obtain ⟨K, hK⟩ : ∃ K, w.heap.size = K := ⟨_, rfl⟩
  have hB0 : Below w.heap.size w (((w.alloc (.cells #[.int .u8 a, .int .u8 b, .int .u8 d, .bool p, .slice A n c] 40)).alloc (.cells #[.int .u8 a', .int .u8 b', .int .u8 d', .bool p', .slice A' n' c'] 40)).alloc (.cells #[.int .u8 0, .int .u8 0, .int .u8 0, .bool false, .slice none 0 0] 40)) := (((Below.refl _ _).alloc (Nat.le_refl _) _).alloc (by simp) _).alloc (by simp; omega) _
  have hX0 : BxX (((w.alloc (.cells #[.int .u8 a, .int .u8 b, .int .u8 d, .bool p, .slice A n c] 40)).alloc (.cells #[.int .u8 a', .int .u8 b', .int .u8 d', .bool p', .slice A' n' c'] 40)).alloc (.cells #[.int .u8 0, .int .u8 0, .int .u8 0, .bool false, .slice none 0 0] 40)) K a b d p A n c := by
    have h : BxX (w.alloc (.cells #[.int .u8 a, .int .u8 b, .int .u8 d, .bool p, .slice A n c] 40)) K a b d p A n c := by rw [← hK]; exact heap_alloc_new w _
    exact (h.below ((Below.refl _ _).alloc (Nat.le_refl _) _)).below ((Below.refl _ _).alloc (Nat.le_refl _) _)
  have hY0 : BxX (((w.alloc (.cells #[.int .u8 a, .int .u8 b, .int .u8 d, .bool p, .slice A n c] 40)).alloc (.cells #[.int .u8 a', .int .u8 b', .int .u8 d', .bool p', .slice A' n' c'] 40)).alloc (.cells #[.int .u8 0, .int .u8 0, .int .u8 0, .bool false, .slice none 0 0] 40)) (K + 1) a' b' d' p' A' n' c' := by
    have h : BxX ((w.alloc (.cells #[.int .u8 a, .int .u8 b, .int .u8 d, .bool p, .slice A n c] 40)).alloc (.cells #[.int .u8 a', .int .u8 b', .int .u8 d', .bool p', .slice A' n' c'] 40)) (K + 1) a' b' d' p' A' n' c' := by
      have h := heap_alloc_new (w.alloc (.cells #[.int .u8 a, .int .u8 b, .int .u8 d, .bool p, .slice A n c] 40)) (.cells #[.int .u8 a', .int .u8 b', .int .u8 d', .bool p', .slice A' n' c'] 40)
      rw [World.size_alloc, hK] at h
      exact h
    exact h.below ((Below.refl _ _).alloc (Nat.le_refl _) _)
  have hZ0 : BxX (((w.alloc (.cells #[.int .u8 a, .int .u8 b, .int .u8 d, .bool p, .slice A n c] 40)).alloc (.cells #[.int .u8 a', .int .u8 b', .int .u8 d', .bool p', .slice A' n' c'] 40)).alloc (.cells #[.int .u8 0, .int .u8 0, .int .u8 0, .bool false, .slice none 0 0] 40)) (K + 1 + 1) 0 0 0 false none 0 0 := by
    have h := heap_alloc_new ((w.alloc (.cells #[.int .u8 a, .int .u8 b, .int .u8 d, .bool p, .slice A n c] 40)).alloc (.cells #[.int .u8 a', .int .u8 b', .int .u8 d', .bool p', .slice A' n' c'] 40)) (.cells #[.int .u8 0, .int .u8 0, .int .u8 0, .bool false, .slice none 0 0] 40)
    rw [World.size_alloc, World.size_alloc, hK] at h
    exact h
  go_enter Try.func15, Try.ntmps15
  go_upto_region 1 with fail
  obtain ⟨W0, hW0⟩ : ∃ W0, (((w.alloc (.cells #[.int .u8 a, .int .u8 b, .int .u8 d, .bool p, .slice A n c] 40)).alloc (.cells #[.int .u8 a', .int .u8 b', .int .u8 d', .bool p', .slice A' n' c'] 40)).alloc (.cells #[.int .u8 0, .int .u8 0, .int .u8 0, .bool false, .slice none 0 0] 40)) = W0 := ⟨_, rfl⟩
  rw [hW0] at hB0 hX0 hY0 hZ0
  try rw [hW0]
  have hKw : w.heap.size ≤ K := by omega
  try rw [hK]
  have hY1 := hY0.setB d
  have hZ1 := hZ0.far (G := K + 1) (k := 1) (by omega) (.int .u8 d)
  have hB1 : Below w.heap.size w (W0.setCell ⟨K + 1, 1, none⟩ (.int .u8 d)) := hB0.setCell (p := ⟨K + 1, 1, none⟩) (by show w.heap.size ≤ K + 1; omega) _
  have HB1 := Lib.hid hB1
  have HKW := Lib.hid hKw
  obtain ⟨a0, a1, a2, a3, a4⟩ := hX0.cells
  obtain ⟨b0, b1, b2, b3, b4⟩ := hY0.cells
  have bf := hY0.frozen 1
  clear hW0 hK hB0 hB1 hKw
  go_upto_region 2 with fail
  obtain ⟨W1, hW1⟩ : ∃ W1, W0.setCell ⟨K + 1, 1, none⟩ (.int .u8 d) = W1 := ⟨_, rfl⟩
  rw [hW1] at hY1 hZ1 HB1
  try rw [hW1]
  clear hW1 a0 a1 a2 a3 a4 b0 b1 b2 b3 b4 bf hX0 hY0 hZ0
  obtain ⟨b0, b1, b2, b3, b4⟩ := hY1.cells
  obtain ⟨z0, z1, z2, z3, z4⟩ := hZ1.cells
  have f0 := hZ1.frozen 0
  have f1 := hZ1.frozen 1
  have f2 := hZ1.frozen 2
  have f3 := hZ1.frozen 3
  have f4 := hZ1.frozen 4
  obtain ⟨r0, r1, r2, r3, r4⟩ := set5_reads hZ1 (.int .u8 a') (.int .u8 d) (.int .u8 d') (.bool p') (.slice A' n' c')
  have HF := Lib.hid (below_set5 HB1.out (g := K + 1 + 1) (by have := HKW.out; omega) (.int .u8 a') (.int .u8 d) (.int .u8 d') (.bool p') (.slice A' n' c'))
  clear hY1 hZ1
  go_wp2
  refine bodyPost_ret (v := .agg #[.int .u8 a', .int .u8 d, .int .u8 d', .bool p', .slice A' n' c']) (by simp [results, Try.f15, go_sem, r0, r1, r2, r3, r4]) rfl ?_
  exact ⟨rfl, HF.out⟩
/-! ### Machines that are handed back, and their boxes -/
theorem own_RB {Ts : List TypeId} {w w' : World} {base : Nat} {e : TypeId} {sz n : Nat} {V : Value} {vs : List Value} (h : w.ownsRow base e sz V n vs) (hT : e ∉ Ts) (hR : RB Ts w w') : w'.ownsRow base e sz V n vs := by
  refine ⟨h.1, ?_⟩
  rcases h.2 with h2 | ⟨g, c, cu, h1, hb, hg, h3⟩
  · exact Or.inl h2
  · exact Or.inr ⟨g, c, cu, h1, hb, hR.block hg hT, h3⟩
theorem Bld.RB_ {w w' : World} {base : Nat} {V : Value} {rs : List (List Ed)} {vs : List Value} (h : Bld w base V rs vs) (hR : RB [24] w w') : Bld w' base V rs vs :=
  ⟨own_RB h.1 (by decide) hR, fun j row hj => by
    obtain ⟨g, c, h1, h2⟩ := h.2 j row hj
    exact ⟨g, c, h1, own_RB h2 (by decide) hR⟩⟩
def kM (x y : Int) (n : Nat) (rs : List (List Ed)) : KX [24] := ⟨fun v w => ∃ (R : Option Addr) (c : Nat), v = .agg #[.int .i64 x, .int .i64 y, .slice R n c] ∧ ∃ bs vs, Bld w bs (.slice R n c) rs vs, fun v w w' h hR => by
  obtain ⟨R, c, e, bs, vs, h⟩ := h
  exact ⟨R, c, e, bs, vs, h.RB_ hR⟩⟩
section
variable {W : World} {ds : List (Option Tmp)} {T0 : Tmp → Value} {Ts : List TypeId} {KS : List (NK Ts)} {i : Nat} {o : Oper} {t : Tmp}
theorem bopM_const {P : Program} {x : Value} (hg : o.guard = none) (hd : o.dst = some t) (hK : KS[i]? = some (.hop (kx x))) (h : ∀ (a : Act) (w : World) (adr : Nat → Nat), Below W.heap.size W w → (∀ t, ds.contains (some t) = false → a.tmps.getD t undef = T0 t) → DepX W ds KS o a.tmps w adr → yieldsM P o a w fun v w' => v = x ∧ w' = w) : Bop P W ds T0 KS i o := by
  refine ⟨hg, ?_⟩
  rw [hK]
  intro a w adr hC hf hD
  refine yieldsM_mono (h a w adr hC hf hD) fun v w' hv => ?_
  obtain ⟨rfl, rfl⟩ := hv
  refine ⟨?_, Below.refl _ _⟩
  unfold norm
  rw [hd]
  rfl
theorem bopX_load {s g n c : Nat} {a b d : Int} {p : Bool} {A : Option Addr} (h : o.op = .load 40 (.tmp s)) (hg : o.guard = none) (hd : o.dst = some t) (hs : ds.contains (some s) = false) (hT : T0 s = .pointer (some ⟨g, 0, none⟩)) (hB : BxX W g a b d p A n c) (hK : KS[i]? = some (.hop (kx (.agg #[.int .u8 a, .int .u8 b, .int .u8 d, .bool p, .slice A n c])))) : Bop Try.prog W ds T0 KS i o :=
  bopM_const hg hd hK fun _ _ _ hC hf _ => loadX_yields h ((hf s hs).trans hT) (hB.below hC)
set_option maxRecDepth 100000 in
theorem bopZ_field {s g : Nat} (h : o.op = .fieldAddr 54 (.tmp s) 0) (hg : o.guard = none) (hd : o.dst = some t) (hs : ds.contains (some s) = false) (hT : T0 s = .pointer (some ⟨g, 0, none⟩)) (hK : KS[i]? = some (.hop (kx (.pointer (some ⟨g, 0, none⟩))))) : Bop Try.prog W ds T0 KS i o :=
  bopM_const hg hd hK fun a w adr hC hf hD => by
    have h1 : a.tmps.getD s undef = .pointer (some ⟨g, 0, none⟩) := (hf s hs).trans hT
    obtain ⟨dst, op, type, pos, after, guard⟩ := o
    simp only at h
    subst h
    have h2 : a.tmps[s]?.getD undef = .pointer (some ⟨g, 0, none⟩) := by simpa using h1
    unfold yieldsM
    simp [execOp, go_sem, h2]
theorem bopZ_load {s j g n c m e : Nat} {a b d : Int} {p : Bool} {A B : Option Addr} (h : o.op = .load 40 (.tmp s)) (hg : o.guard = none) (hd : o.dst = some t) (hn : needK o j = true) (hj : ds[j]? = some (some s)) (hJ : KS[j]? = some (.hop (kx (.pointer (some ⟨g, 0, none⟩))))) (hB : BxZ W g a b d p A n c B m e) (hK : KS[i]? = some (.hop (kx (.agg #[.int .u8 a, .int .u8 b, .int .u8 d, .bool p, .slice A n c])))) : Bop Try.prog W ds T0 KS i o :=
  bopM_const hg hd hK fun x w adr hC hf hD => by
    have h1 : x.tmps.getD s undef = .pointer (some ⟨g, 0, none⟩) := hD.at_ hn hJ hj
    obtain ⟨c0, c1, c2, c3, c4, _⟩ := (hB.below hC).cells
    obtain ⟨dst, op, type, pos, after, guard⟩ := o
    simp only at h
    subst h
    have h2 : x.tmps[s]?.getD undef = .pointer (some ⟨g, 0, none⟩) := by simpa using h1
    unfold yieldsM
    simp [execOp, go_sem, h2, c0, c1, c2, c3, c4]
theorem bopM_of {KS : List (NK [24])} {s j : Nat} {v0 : Value} {x y : Int} {n : Nat} {rs : List (List Ed)} (h : o.op = .call { callee := .value (.func 16), args := #[.tmp s], argTypes := #[40] }) (hg : o.guard = none) (hd : o.dst = some t) (hn : needK o j = true) (hj : ds[j]? = some (some s)) (hJ : KS[j]? = some (.hop (kx v0)))
    (hC : ∀ wr, Below W.heap.size W wr → Calls Try.prog 16 #[v0] wr fun e w' => ∃ (R : Option Addr) (c : Nat), e = .returned (.agg #[.int .i64 x, .int .i64 y, .slice R n c]) ∧ (∃ bs vs, Bld w' bs (.slice R n c) rs vs) ∧ Below wr.heap.size wr w') (hK : KS[i]? = some (.hop (kM x y n rs))) : Bop Try.prog W ds T0 KS i o := by
  refine ⟨hg, ?_⟩
  rw [hK]
  intro a w adr hB hf hD
  have h1 : a.tmps.getD s undef = v0 := hD.at_ hn hJ hj
  obtain ⟨dst, op, type, pos, after, guard⟩ := o
  simp only at h hd
  subst h hd
  have h2 : a.tmps[s]?.getD undef = v0 := by simpa using h1
  unfold yieldsM
  simp [go_sem, h2]
  refine (hC w hB).mono ?_
  rintro e w' ⟨R, c, rfl, hBl, hb⟩
  exact ⟨_, rfl, ⟨R, c, rfl, hBl⟩, hb⟩
theorem bopM_alloc {s : Nat} (h : o.op = .alloc 24) (hg : o.guard = none) (hd : o.dst = some t) (hK : KS[i]? = some (.new (.cells #[.int .i64 0, .int .i64 0, .slice none 0 0] 24) (fun g => .pointer (some ⟨g, 0, none⟩)) (some s))) : Bop Try.prog W ds T0 KS i o := by
  refine ⟨hg, ?_⟩
  rw [hK]
  intro a w adr hC hf hD
  refine yieldsM_mono (alloc_yields h) fun v w' hv => ?_
  obtain ⟨rfl, rfl⟩ := hv
  refine ⟨?_, rfl⟩
  unfold norm
  rw [hd]
def aggM (v : Value) : Array Value := match v with
  | .agg a => a
  | _ => #[]
theorem setM3_block {w : World} {G : Nat} {a b c x y z : Value} {T : TypeId} {fr : Nat × Nat} (h : w.heap[G]? = some (.cells #[a, b, c] T fr)) : (set3 w G x y z).heap[G]? = some (.cells #[x, y, z] T fr) ∧ (set3 w G x y z).heap.size = w.heap.size ∧ ∀ q : Nat, q ≠ G → (set3 w G x y z).heap[q]? = w.heap[q]? := by
  refine ⟨set1_block (set1_block (set1_block h x) y) z, by simp [set3, World.setCell], fun q hq => ?_⟩
  show (((w.setCell ⟨G, 0, none⟩ x).setCell ⟨G, 1, none⟩ y).setCell ⟨G, 2, none⟩ z).heap[q]? = _
  rw [Below.heap_setCell _ _ _ _ (show q ≠ G from hq), Below.heap_setCell _ _ _ _ (show q ≠ G from hq), Below.heap_setCell _ _ _ _ (show q ≠ G from hq)]
theorem bopM_store {KS : List (NK [24])} {s u j k n : Nat} {x y : Int} {rs : List (List Ed)} (h : o.op = .store 24 (.tmp s) (.tmp u)) (hg : o.guard = none) (hd : o.dst = none) (hn : needK o j = true) (hn2 : needK o k = true) (hj : ds[j]? = some (some s)) (hk : ds[k]? = some (some u)) (hJ : KS[j]? = some (.new (.cells #[.int .i64 0, .int .i64 0, .slice none 0 0] 24) (fun g => .pointer (some ⟨g, 0, none⟩)) (some i))) (hJ2 : KS[k]? = some (.hop (kM x y n rs))) (hK : KS[i]? = some (.st j k 24 aggM)) : Bop Try.prog W ds T0 KS i o := by
  refine ⟨hg, ?_⟩
  rw [hK]
  refine ⟨hd, _, _, _, hJ, hJ2, by decide, hn, hn2, fun a w G hC h1 hG hc h2 => ?_⟩
  have e1 : a.tmps.getD s undef = .pointer (some ⟨G, 0, none⟩) := by
    unfold dv at h1
    rw [hj] at h1
    exact h1
  obtain ⟨R, c, e2, _⟩ := h2
  have e3 : a.tmps.getD u undef = .agg #[.int .i64 x, .int .i64 y, .slice R n c] := by
    unfold dv at e2
    rw [hk] at e2
    exact e2
  refine yieldsM_mono (store_yields h e1 e3 hc) fun v w' hv => ?_
  obtain ⟨rfl, rfl⟩ := hv
  obtain ⟨x1, x2, x3⟩ := setM3_block (x := .int .i64 x) (y := .int .i64 y) (z := .slice R n c) hc
  exact ⟨below_set3' hC hG _ _ _, x2, by rw [e2]; exact x1, x3⟩
end
/-- What is known behind the region that makes three machines. -/
structure Th3 (W : World) (ra rb rc : List (List Ed)) (G H T : Nat) (R S U : Option Addr) (n n' n'' c1 c2 c3 : Nat) (x0 y0 x1 y1 x2 y2 : Int) (wx : World) : Prop where
  bel : Below W.heap.size W wx
  bg : BxM wx G x0 y0 R n c1
  bh : BxM wx H x1 y1 S n' c2
  bt : BxM wx T x2 y2 U n'' c3
  ra : ∃ bs vs, Bld wx bs (.slice R n c1) ra vs
  rb : ∃ bs vs, Bld wx bs (.slice S n' c2) rb vs
  rc : ∃ bs vs, Bld wx bs (.slice U n'' c3) rc vs
/-! ### What Series hands back -/
theorem ser_hand (a b : Ma) (A B : Option Addr) (n c n2 c2 L : Nat) (x : Int) (w : World) (va : Mc.Val a) (vb : Mc.Val b) (hab : a.o = b.i) (hra : RdR w A a.r) (hn : a.r.length = n) (hrb : RdR w B b.r) (hn2 : b.r.length = n2) (hL : (Mc.ord (Mc.ser a b)).length = L) (hx : x = if 64 < L then 3 else 0) :
    Calls Try.prog 18 #[.agg #[.int .i64 a.i, .int .i64 a.o, .slice A n c], .agg #[.int .i64 b.i, .int .i64 b.o, .slice B n2 c2]] w fun e w' => ∃ (ri ro : Int) (P : Option Addr) (k k' : Nat), e = .returned (.tuple #[.agg #[.int .i64 ri, .int .i64 ro, .slice P k k'], .int .i64 x]) ∧ Hid ((x = 3 ∧ 64 < L ∧ ri = 0 ∧ ro = 0 ∧ P = none ∧ k = 0 ∧ k' = 0) ∨ (x = 0 ∧ L ≤ 64 ∧ ri = a.i ∧ ro = b.o ∧ k = L ∧ k' = L ∧ ∃ p, P = some ⟨p, 0, none⟩ ∧ Ex w' p L (Mc.cn (Mc.ser a b)).r)) ∧ Below w.heap.size w w' := by
  have h := series_any a b A B n c n2 c2 w hra hn (by have := va.r1; omega) (fun row hr => by have := va.len row hr; have := va.i1; omega) hrb hn2 (by have := vb.r1; omega) (fun row hr => by have := vb.len row hr; have := vb.i1; omega)
  have hs : sech a b = 0 := by unfold sech; rw [if_neg (by rw [jch_of va vb]; simp), if_neg (by simp [hab])]
  have VJ := Mc.ser_vx va vb hab
  by_cases h64 : 64 < L
  · rw [if_pos h64] at hx
    subst hx
    refine h.mono fun e w' h => ?_
    rcases h with ⟨h1, _⟩ | ⟨_, ⟨h1, _⟩ | ⟨_, h1, h2⟩⟩
    · exact absurd hs h1
    · omega
    · exact ⟨0, 0, none, 0, 0, h1, Or.inl ⟨rfl, h64, rfl, rfl, rfl, rfl, rfl⟩, h2⟩
  · rw [if_neg h64] at hx
    subst hx
    have hC := (Mc.vx_can VJ (show (Mc.ser a b).i ≤ 16 from va.i1) (show (Mc.ser a b).o ≤ 16 from vb.o1) (by omega)).1
    refine h.mono fun e w' h => ?_
    obtain ⟨p, rfl, h1, h2⟩ := SeP.ok h hs rfl (show _ = L by rw [Mc.prt_len]; exact hL) (by omega) (fun row hr => by have := hC.len row hr; have := hC.i1; omega)
    exact ⟨_, _, _, _, _, rfl, Or.inr ⟨rfl, by omega, rfl, rfl, rfl, rfl, p, rfl, h1⟩, h2⟩
/-- A slice cut at its end. -/
theorem run_cutQ (A : Option Addr) (n c k : Nat) (h : k ≤ c) (w : World) : (Instr.sliceAt 30 (.slice A n c) none (some (.int .i64 k)) none).run Try.prog w = .ok (.slice A k c) w := by
  have h2 : (k : Int) ≤ c := by omega
  cases A <;> simp [go_sem, h2]
/-- Run, with the room that its result has. -/
theorem rrun_cap (m : Ma) (i o : Int) (A : Option Addr) (n c : Nat) (w : World) (s : Int) (W : Option Addr) (k d : Nat) (ws : List Int) (v : Mc.Val m) (hi : m.i = i) (ho : m.o = o) (hn : m.r.length = n) (hk : ws.length = k) (hr : RdR w A m.r) (hw : Rd w W ws) (hs : Mc.St m s) (hwd : Mc.Wd m ws) (hl : k ≤ 65536) :
    Calls Try.prog 21 #[.agg #[.int .i64 i, .int .i64 o, .slice A n c], .int .i64 s, .slice W k d] w fun e w' => ∃ B q, e = .returned (.slice B k q) ∧ Rd w' B (Mc.run m s ws) ∧ k ≤ q ∧ Below w.heap.size w w' := by
  subst hi ho hn hk
  refine (rrun_any m s A W c d ws w v hr hw hs hwd hl).mono ?_
  rintro e w' ⟨B, q, rfl, h1, h3, h2⟩
  rw [Mc.run_len] at h3 ⊢
  exact ⟨B, q, rfl, h1, h3, h2⟩
/-- The first k numbers are defined. -/
def FPj (F : List Int) (k : Nat) : Prop := ∀ q : Nat, q < k → ∃ x, F[q]? = some x ∧ 0 ≤ x
theorem FPj.zero (F : List Int) : FPj F 0 := fun q h => absurd h (Nat.not_lt_zero q)
theorem FPj.next {F : List Int} {k : Nat} {x : Int} (h : FPj F k) (hx : F[k]? = some x) (h0 : 0 ≤ x) : FPj F (k + 1) := fun q hq => by
  rcases Nat.lt_or_ge q k with h1 | h1
  · exact h q h1
  · obtain rfl : q = k := by omega
    exact ⟨x, hx, h0⟩
namespace Mc
theorem sr_app (b : Ma) : ∀ (u v : List Int) (t : Int), (∀ x ∈ u, 0 ≤ x) → sr b t (u ++ v) = run b t u ++ sr b (aft b t u) v
  | [], _, _, _ => rfl
  | x :: u, v, t, h => by
    have hx := h x (by simp)
    show (if x < 0 then _ else _) = _
    rw [if_neg (by omega)]
    have ih := sr_app b u v (nx b t x).1 (fun y hy => h y (by simp [hy]))
    show (nx b t x).2 :: sr b (nx b t x).1 (u ++ v) = _
    rw [ih]
    rfl
theorem sr_at (b : Ma) (F : List Int) (t : Int) (n : Nat) (hn : n ≤ F.length) (hp : FPj F n) (he : n = F.length ∨ ∃ x, F[n]? = some x ∧ x < 0) (k : Nat) (hk : k < F.length) : (sr b t F)[k]? = if k < n then (run b t (F.take n))[k]? else some (-1) := by
  have hu : ∀ x ∈ F.take n, 0 ≤ x := fun x hx => by
    obtain ⟨q, hq⟩ := List.mem_iff_getElem?.1 hx
    have hqn : q < n := by
      have := (List.getElem?_eq_some_iff.1 hq).1
      rw [List.length_take] at this
      omega
    rw [List.getElem?_take_of_lt hqn] at hq
    obtain ⟨y, h1, h2⟩ := hp q hqn
    rw [hq] at h1
    injection h1 with h1
    omega
  have hl : (run b t (F.take n)).length = n := by rw [run_len, List.length_take]; omega
  have e := sr_app b (F.take n) (F.drop n) t hu
  rw [List.take_append_drop] at e
  rw [e]
  by_cases hkn : k < n
  · rw [if_pos hkn, List.getElem?_append_left (by omega)]
  · rw [if_neg hkn, List.getElem?_append_right (by omega), hl]
    rcases he with he | ⟨x, hx, h0⟩
    · omega
    · have hd : F.drop n = x :: F.drop (n + 1) := by
        have h1 : n < F.length := by omega
        rw [List.drop_eq_getElem_cons h1]
        rw [List.getElem?_eq_getElem h1] at hx
        injection hx with hx
        rw [hx]
      rw [hd]
      show (if x < 0 then _ else _)[k - n]? = _
      rw [if_pos h0]
      have h2 : (-1 :: (F.drop (n + 1)).map fun _ : Int => (-1 : Int)) = List.replicate (F.length - n) (-1) := by
        rw [List.map_const', List.length_drop, ← List.replicate_succ]
        congr 1
        omega
      rw [h2, List.getElem?_replicate, if_pos (by omega)]
end Mc
end Go.Proofs.Ytgafpmgdpigliaa
