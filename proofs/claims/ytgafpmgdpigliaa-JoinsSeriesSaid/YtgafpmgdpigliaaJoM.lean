/-
  The mathematics of joint machines: pairs of states, numbered as they are met. No program. No statement is proved here.
-/
import Derived.Test.YtgafpmgdpigliaaEqM
import Derived.Test.YtgafpmgdpigliaaWcY
namespace Go.Proofs.Ytgafpmgdpigliaa.Mc
open M (rk)

/-- A machine of any size. -/
structure Vx (m : Ma) : Prop where
  i0 : 1 ≤ m.i
  o0 : 1 ≤ m.o
  r0 : 1 ≤ m.r.length
  len : ∀ row ∈ m.r, (row.length : Int) = m.i
  ok : ∀ row ∈ m.r, ∀ x ∈ row, (x.1 = -1 ∧ x.2 = -1) ∨ (0 ≤ x.1 ∧ x.1 < m.r.length ∧ 0 ≤ x.2 ∧ x.2 < m.o)
theorem Val.vx {m : Ma} (v : Val m) : Vx m := ⟨v.i0, v.o0, v.r0, v.len, v.ok⟩
section
variable {m : Ma} {l k : List Int} {w : List Int} {s t : Int}
theorem nx_stX {m : Ma} (v : Vx m) {s i : Int} (hs : St m s) (hi : 0 ≤ i ∧ i < m.i) : St m (nx m s i).1 ∧ ((nx m s i).1 = -1 → (nx m s i).2 = -1) ∧ -1 ≤ (nx m s i).2 ∧ (nx m s i).2 < m.o ∧ (0 ≤ (nx m s i).1 → 0 ≤ (nx m s i).2) := by
  have h3 := v.o0
  rcases hs with rfl | ⟨h1, h2⟩
  · rw [nx_neg (by omega)]
    exact ⟨Or.inl rfl, fun _ => rfl, by simp, by simp; omega, by simp⟩
  · obtain ⟨s, rfl⟩ := Int.eq_ofNat_of_zero_le h1
    obtain ⟨i, rfl⟩ := Int.eq_ofNat_of_zero_le hi.1
    have hl : s < m.r.length := by omega
    have hrow := v.len m.r[s] (List.getElem_mem hl)
    have hil : i < (m.r[s]).length := by omega
    rw [nx_at (List.getElem?_eq_getElem hl) (List.getElem?_eq_getElem hil)]
    rcases v.ok m.r[s] (List.getElem_mem hl) (m.r[s])[i] (List.getElem_mem hil) with ⟨a, b⟩ | ⟨a, b, c, d⟩
    · refine ⟨Or.inl a, fun _ => b, by omega, by omega, fun h => by omega⟩
    · exact ⟨Or.inr ⟨a, b⟩, fun h => by omega, by omega, d, fun _ => c⟩

theorem aft_stX {m : Ma} (v : Vx m) : ∀ (w : List Int) (s : Int), St m s → Wd m w → St m (aft m s w)
  | [], _, h, _ => h
  | c :: w, s, h, hw => aft_stX v w _ (nx_stX v h (hw c (by simp))).1 (fun d hd => hw d (by simp [hd]))

theorem nx_prtX (v : Vx m) (h : Cls m l) {k : Nat} {s : Int} (hk : l[k]? = some s) {c : Int} (hc : 0 ≤ c ∧ c < m.i) : nx (prt m l) k c = (ix l (nx m s c).1, (nx m s c).2) := by
  obtain ⟨h1, h2⟩ := h.rg s (List.mem_of_getElem? hk)
  obtain ⟨s, rfl⟩ := Int.eq_ofNat_of_zero_le h1
  obtain ⟨c, rfl⟩ := Int.eq_ofNat_of_zero_le hc.1
  have hsl : s < m.r.length := by omega
  have hrow := v.len m.r[s] (List.getElem_mem hsl)
  have hcl : c < (m.r[s]).length := by omega
  have e := nx_at (List.getElem?_eq_getElem hsl) (List.getElem?_eq_getElem hcl)
  rw [e]
  refine nx_at (row := (m.r[s]).map fun x => (ix l x.1, x.2)) ?_ ?_
  · simp [prt, hk, List.getElem?_eq_getElem hsl]
  · simp [List.getElem?_eq_getElem hcl]

/-- The same words lead to the same states, and give the same outputs. -/
theorem prt_simX (v : Vx m) (h : Cls m l) : ∀ (w : List Int) (s : Int), s = -1 ∨ s ∈ l → Wd m w → aft (prt m l) (ix l s) w = ix l (aft m s w) ∧ run (prt m l) (ix l s) w = run m s w
  | [], s, _, _ => ⟨rfl, rfl⟩
  | c :: w, s, hs, hw => by
    have hc := hw c (by simp)
    have hw' : Wd m w := fun d hd => hw d (by simp [hd])
    have hnm : (-1 : Int) ∉ l := fun e => by have := h.rg _ e; omega
    have key : nx (prt m l) (ix l s) c = (ix l (nx m s c).1, (nx m s c).2) := by
      rcases hs with rfl | hs
      · rw [ix_none hnm, nx_neg (by omega), nx_neg (by omega)]
        show nE = (ix l (-1), -1)
        rw [ix_none hnm]
      · have h1 := ix_get hs
        have h2 : ix l s = ((ix l s).toNat : Int) := by
          have : 0 ≤ ix l s := by unfold ix; rw [if_pos hs]; omega
          omega
        rw [h2]
        exact nx_prtX v h h1 hc
    have hn : (nx m s c).1 = -1 ∨ (nx m s c).1 ∈ l := by
      rcases hs with rfl | hs
      · rw [nx_neg (by omega)]; exact Or.inl rfl
      · have h1 := h.rg s hs
        rcases (nx_stX v (s := s) (i := c) (Or.inr h1) hc).1 with h2 | h2
        · exact Or.inl h2
        · exact Or.inr (h.cl s hs c hc.1 hc.2 h2.1)
    obtain ⟨i1, i2⟩ := prt_simX v h w _ hn hw'
    refine ⟨?_, ?_⟩
    · show aft (prt m l) (nx (prt m l) (ix l s) c).1 w = ix l (aft m (nx m s c).1 w)
      rw [key]; exact i1
    · show (nx (prt m l) (ix l s) c).2 :: run (prt m l) (nx (prt m l) (ix l s) c).1 w = (nx m s c).2 :: run m (nx m s c).1 w
      rw [key]
      simp only
      rw [i2]

theorem Ord.clsX (v : Vx m) (h : Ord m l) : Cls m l := by
  have h5 := v.r0
  refine ⟨?_, fun s hs => ?_, fun s hs c hc0 hc1 hn => ?_⟩
  · rw [List.Nodup]
    exact h.srt.imp fun {a b} hab e => by rw [e] at hab; omega
  · obtain ⟨h1, w, hw, ht⟩ := (h.mem s).1 hs
    rcases aft_stX v w 0 (Or.inr ⟨by omega, by omega⟩) hw with h2 | h2
    · omega
    · rw [ht] at h2; exact h2
  · obtain ⟨_, w, hw, ht⟩ := (h.mem s).1 hs
    exact (h.mem _).2 ⟨hn, w ++ [c], Wd.join hw ⟨hc0, hc1⟩, by rw [aft_snoc, ht]⟩

/-- The queue gives the order. -/
theorem BF.ordX {Q : List (Int × List Int)} (v : Vx m) (h : BF m 0 Q Q.length 0) : Ord m (Q.map (·.1)) := by
  refine ⟨fun s => ⟨fun hs => ?_, fun ⟨h0, w, hw, ht⟩ => ?_⟩, ?_⟩
  · obtain ⟨e, he, rfl⟩ := List.mem_map.1 hs
    obtain ⟨h1, h2⟩ := h.lw e he
    exact ⟨h1.1, e.2, h2.wd, h2.to⟩
  · obtain ⟨e, he, h1⟩ := h.all _ w rfl hw (by rw [ht]; exact h0)
    exact List.mem_map.2 ⟨e, he, by rw [h1, ht]⟩
  · rw [List.pairwise_map]
    refine h.asc.imp_of_mem fun {a b} ha hb hab => ?_
    rw [ar_eq v.i0 (h.lw a ha).2, ar_eq v.i0 (h.lw b hb).2]
    exact hab

theorem prt_aftX (v : Vx m) (h : Cls m l) (h0 : l[0]? = some 0) (hw : Wd m w) : aft (prt m l) 0 w = ix l (aft m 0 w) ∧ run (prt m l) 0 w = run m 0 w := by
  have := prt_simX v h w 0 (Or.inr (List.mem_of_getElem? h0)) hw
  rwa [show ix l 0 = 0 from ix_at h.nd h0] at this

theorem prt_lwX (v : Vx m) (h : Cls m l) (h0 : l[0]? = some 0) (hs : s ∈ l) : Lw m 0 w s ↔ Lw (prt m l) 0 w (ix l s) := by
  have key : ∀ u, Wd m u → (aft m 0 u = s ↔ aft (prt m l) 0 u = ix l s) := fun u hu => by
    rw [(prt_aftX v h h0 hu).1]
    refine ⟨fun e => by rw [e], fun e => ?_⟩
    have hor : aft m 0 u = -1 ∨ aft m 0 u ∈ l := by
      have h5 := v.r0
      rcases aft_stX v u 0 (Or.inr ⟨by omega, by omega⟩) hu with h1 | h1
      · exact Or.inl h1
      · exact Or.inr (aft_mem h (List.mem_of_getElem? h0) u hu h1.1)
    have hm := (ix_neg_iff h hor).1 (by rw [e]; exact (ix_neg_iff h (Or.inr hs)).2 hs)
    exact ix_inj hm hs e
  exact ⟨fun ⟨a, b, c⟩ => ⟨a, (key w a).1 b, fun u hu he => c u hu ((key u hu).2 he)⟩, fun ⟨a, b, c⟩ => ⟨a, (key w a).2 b, fun u hu he => c u hu ((key u hu).1 he)⟩⟩

/-- The order of a machine with other numbers is the same one. -/
theorem Ord.prtX (v : Vx m) (h : Cls m l) (h0 : l[0]? = some 0) (hk : Ord m k) : Ord (Mc.prt m l) (k.map (ix l)) := by
  have h5 := v.r0
  refine ⟨fun t => ⟨fun ht => ?_, fun ⟨h1, w, hw, ht⟩ => ?_⟩, ?_⟩
  · obtain ⟨s, hs, rfl⟩ := List.mem_map.1 ht
    have hsl := hk.sub h h0 hs
    obtain ⟨_, w, hw, he⟩ := (hk.mem s).1 hs
    exact ⟨(ix_neg_iff h (Or.inr hsl)).2 hsl, w, hw, by rw [(prt_aftX v h h0 hw).1, he]⟩
  · rw [(prt_aftX v h h0 hw).1] at ht
    have hor : aft m 0 w = -1 ∨ aft m 0 w ∈ l := by
      rcases aft_stX v w 0 (Or.inr ⟨by omega, by omega⟩) hw with h2 | h2
      · exact Or.inl h2
      · exact Or.inr (aft_mem h (List.mem_of_getElem? h0) w hw h2.1)
    have hm := (ix_neg_iff h hor).1 (by rw [ht]; exact h1)
    exact List.mem_map.2 ⟨_, (hk.mem _).2 ⟨(h.rg _ hm).1, w, hw, rfl⟩, ht⟩
  · rw [List.pairwise_map]
    refine hk.srt.imp_of_mem fun {a b} ha hb hab => ?_
    obtain ⟨wa, hwa⟩ := hk.lw v.i0 ha
    obtain ⟨wb, hwb⟩ := hk.lw v.i0 hb
    rw [ar_eq v.i0 hwa, ar_eq v.i0 hwb] at hab
    rw [ar_eq (m := Mc.prt m l) v.i0 ((prt_lwX v h h0 (hk.sub h h0 ha)).1 hwa), ar_eq (m := Mc.prt m l) v.i0 ((prt_lwX v h h0 (hk.sub h h0 hb)).1 hwb)]
    exact hab

/-- Two numberings, one after the other. -/
theorem prt_prtX (v : Vx m) (h : Cls m l) (hk : Cls m k) (hs : ∀ s ∈ k, s ∈ l) : prt (prt m l) (k.map (ix l)) = prt m k := by
  have hn : (-1 : Int) ∉ l := fun e => by have := h.rg _ e; omega
  have hn' : (-1 : Int) ∉ k := fun e => hn (hs _ e)
  have hix : ∀ a, a = -1 ∨ a ∈ l → ix (k.map (ix l)) (ix l a) = ix k a := fun a ha => by
    by_cases hak : a ∈ k
    · have hnd : (k.map (ix l)).Nodup := by
        rw [List.Nodup, List.pairwise_map]
        exact hk.nd.imp_of_mem fun {x y} hx hy hxy e => hxy (ix_inj (hs x hx) (hs y hy) e)
      obtain ⟨j, hj⟩ := List.mem_iff_getElem?.1 hak
      rw [ix_at hk.nd hj]
      exact ix_at hnd (by rw [List.getElem?_map, hj]; rfl)
    · rw [ix_none hak]
      refine ix_none fun e => ?_
      obtain ⟨b, hb, hba⟩ := List.mem_map.1 e
      rcases ha with rfl | ha
      · rw [ix_none hn] at hba
        have := (ix_neg_iff h (Or.inr (hs b hb))).2 (hs b hb)
        omega
      · exact hak (ix_inj (hs b hb) ha hba ▸ hb)
  unfold prt
  simp only [List.map_map, Ma.mk.injEq, true_and]
  refine List.map_congr_left fun s hsk => ?_
  have hsl := hs s hsk
  obtain ⟨h1, h2⟩ := h.rg s hsl
  have hsn : s.toNat < m.r.length := by omega
  simp only [Function.comp, List.getElem?_map, ix_get hsl, Option.map_some, Option.getD_some, List.map_map]
  rw [List.getElem?_eq_getElem hsn, Option.getD_some]
  refine List.map_congr_left fun x hx => ?_
  simp only [Function.comp]
  rw [hix]
  obtain ⟨c, hc⟩ := List.mem_iff_getElem?.1 hx
  have hrow := v.len _ (List.getElem_mem hsn)
  have hcl := (List.getElem?_eq_some_iff.1 hc).1
  have hnx : nx m s c = x := by
    have := nx_at (m := m) (s := s.toNat) (i := c) (List.getElem?_eq_getElem hsn) hc
    rwa [show ((s.toNat : Nat) : Int) = s by omega] at this
  rcases v.ok _ (List.getElem_mem hsn) x hx with ⟨e1, _⟩ | ⟨e1, _⟩
  · exact Or.inl e1
  · have := h.cl s hsl c (by omega) (by omega) (by rw [hnx]; exact e1)
    rw [hnx] at this
    exact Or.inr this

/-- A canonical form is its own one. -/
theorem canon_ownX (v : Vx m) (hl : Ord m l) : Ord (prt m l) ((List.range l.length).map fun (j : Nat) => (j : Int)) ∧ prt (prt m l) ((List.range l.length).map fun (j : Nat) => (j : Int)) = prt m l := by
  have hc := hl.clsX v
  rw [← map_ix_self hc.nd]
  exact ⟨hl.prtX v hc (hl.zero v.i0), prt_prtX v hc hc fun s hs => hs⟩

/-- However the states are numbered, the canonical form is the same. -/
theorem canon_anyX (v : Vx m) (h : Cls m l) (h0 : l[0]? = some 0) (hk : Ord m k) {k' : List Int} (hk' : Ord (prt m l) k') : prt (prt m l) k' = prt m k := by
  rw [hk'.uniq (hk.prtX v h h0)]
  exact prt_prtX v h (hk.clsX v) fun s hs => hk.sub h h0 hs
theorem prt_valX (v : Vx m) (hi : m.i ≤ 16) (ho : m.o ≤ 16) (h : Cls m l) (h1 : 1 ≤ l.length) (h2 : l.length ≤ 64) : Val (prt m l) := by
  refine ⟨v.i0, hi, v.o0, ho, by rw [prt_len]; exact h1, by rw [prt_len]; exact h2, fun row hr => ?_, fun row hr x hx => ?_⟩
  · obtain ⟨s, hs, rfl⟩ := List.mem_map.1 hr
    have h3 := h.rg s hs
    have hsl : s.toNat < m.r.length := by omega
    rw [List.length_map, List.getElem?_eq_getElem hsl]
    exact v.len _ (List.getElem_mem hsl)
  · obtain ⟨s, hs, rfl⟩ := List.mem_map.1 hr
    have h3 := h.rg s hs
    have hsl : s.toNat < m.r.length := by omega
    rw [List.getElem?_eq_getElem hsl, Option.getD_some] at hx
    obtain ⟨y, hy, rfl⟩ := List.mem_map.1 hx
    obtain ⟨c, hc⟩ := List.mem_iff_getElem?.1 hy
    have hrow := v.len _ (List.getElem_mem hsl)
    have hcl := (List.getElem?_eq_some_iff.1 hc).1
    rw [prt_len]
    show (ix l y.1 = -1 ∧ y.2 = -1) ∨ (0 ≤ ix l y.1 ∧ ix l y.1 < l.length ∧ 0 ≤ y.2 ∧ y.2 < m.o)
    rcases v.ok _ (List.getElem_mem hsl) y hy with ⟨e1, e2⟩ | ⟨e1, e2, e3, e4⟩
    · refine Or.inl ⟨?_, e2⟩
      rw [e1]
      exact ix_none fun e => by have := h.rg _ e; omega
    · have hnx : nx m s c = y := by
        have := nx_at (m := m) (s := s.toNat) (i := c) (List.getElem?_eq_getElem hsl) hc
        rwa [show ((s.toNat : Nat) : Int) = s by omega] at this
      have hmem := h.cl s hs c (by omega) (by omega) (by rw [hnx]; exact e1)
      rw [hnx] at hmem
      refine Or.inr ⟨?_, ix_lt _, e3, e4⟩
      unfold ix
      rw [if_pos hmem]
      omega
theorem vx_vq (v : Vx m) : Vq m := ⟨v.i0, fun _ _ hs hi => (nx_stX v hs hi).1⟩
theorem vx_bf (v : Vx m) : BF m 0 (wk m 0) (wk m 0).length 0 := wk_bfQ (vx_vq v) ⟨by omega, by have := v.r0; omega⟩
theorem vx_ord (v : Vx m) : Ord m (ord m) := (vx_bf v).ordX v
theorem vx_cls (v : Vx m) : Cls m (ord m) := (vx_ord v).clsX v
theorem vx_pos (v : Vx m) : 1 ≤ (ord m).length := by
  have h := (vx_ord v).zero v.i0
  have := (List.getElem?_eq_some_iff.1 h).1
  omega
theorem ord_lenX (m : Ma) : (ord m).length = (wk m 0).length := by simp [Mc.ord]
/-- The canonical form of a machine of which few states are reached. -/
theorem vx_can (v : Vx m) (hi : m.i ≤ 16) (ho : m.o ≤ 16) (h : (ord m).length ≤ 64) : Val (prt m (ord m)) ∧ (ord (prt m (ord m))).length = (ord m).length ∧ prt (prt m (ord m)) (ord (prt m (ord m))) = prt m (ord m) := by
  have V := prt_valX v hi ho (vx_cls v) (vx_pos v) h
  obtain ⟨h1, h2⟩ := canon_ownX v (vx_ord v)
  have e := (ord_ord V).uniq h1
  refine ⟨V, ?_, ?_⟩
  · rw [e]; simp
  · rw [e]; exact h2
/-- The same words give the same outputs. -/
theorem vx_run (v : Vx m) (hw : Wd m w) : Mc.run (prt m (ord m)) 0 w = Mc.run m 0 w := (prt_aftX v (vx_cls v) ((vx_ord v).zero v.i0) hw).2
end

/-! ### Machines of pairs -/
abbrev Pz := (Int × Int) × Int
def jE (nb : Nat) (e : Pz) : Ed := if 0 ≤ e.1.1 ∧ 0 ≤ e.1.2 then (e.1.1 * nb + e.1.2, e.2) else nE
def jm (i o : Int) (na nb : Nat) (f : Nat → Nat → Nat → Pz) : Ma := ⟨i, o, (List.range (na * nb)).map fun k => (List.range i.toNat).map fun c => jE nb (f (k / nb) (k % nb) c)⟩
/-- Where pairs lead. -/
def JS (i o : Int) (na nb : Nat) (f : Nat → Nat → Nat → Pz) : Prop := ∀ s t c : Nat, s < na → t < nb → (c : Int) < i →
  ((f s t c).1.1 = -1 ∨ (0 ≤ (f s t c).1.1 ∧ (f s t c).1.1 < na)) ∧ ((f s t c).1.2 = -1 ∨ (0 ≤ (f s t c).1.2 ∧ (f s t c).1.2 < nb)) ∧ (0 ≤ (f s t c).1.1 → 0 ≤ (f s t c).1.2 → 0 ≤ (f s t c).2 ∧ (f s t c).2 < o)
section
variable {i o : Int} {na nb : Nat} {f : Nat → Nat → Nat → Pz}
theorem jm_len : (jm i o na nb f).r.length = na * nb := by simp [jm]
theorem jm_row {s t : Nat} (hs : s < na) (ht : t < nb) : (jm i o na nb f).r[s * nb + t]? = some ((List.range i.toNat).map fun c => jE nb (f s t c)) := by
  have h1 := cd_lt hs ht
  unfold jm
  simp only [List.getElem?_map, List.getElem?_range h1, Option.map_some, cd_div ht, cd_mod ht]
theorem jm_at {s t c : Nat} (hs : s < na) (ht : t < nb) (hc : (c : Int) < i) : nx (jm i o na nb f) ((s * nb + t : Nat) : Int) (c : Int) = jE nb (f s t c) := by
  refine nx_at (jm_row hs ht) ?_
  rw [List.getElem?_map, List.getElem?_range (by omega)]
  rfl
theorem jE_some {e : Pz} {u v : Nat} (h1 : e.1.1 = u) (h2 : e.1.2 = v) : jE nb e = (((u * nb + v : Nat) : Int), e.2) := by
  unfold jE
  rw [if_pos ⟨by omega, by omega⟩, h1, h2]
  simp
theorem jE_none {e : Pz} (h : e.1.1 = -1 ∨ e.1.2 = -1) : jE nb e = nE := by
  unfold jE
  rw [if_neg (by omega)]
theorem jm_vx (hi : 1 ≤ i) (ho : 1 ≤ o) (ha : 1 ≤ na) (hb : 1 ≤ nb) (h : JS i o na nb f) : Vx (jm i o na nb f) := by
  have hab : 0 < na * nb := Nat.mul_pos ha hb
  refine ⟨hi, ho, by rw [jm_len]; omega, fun row hr => ?_, fun row hr x hx => ?_⟩
  · obtain ⟨k, _, rfl⟩ := List.mem_map.1 hr
    show (((List.range i.toNat).map _).length : Int) = i
    rw [List.length_map, List.length_range]
    omega
  · rw [jm_len]
    show _ ∨ _ ∧ _ ∧ _ ∧ x.2 < o
    obtain ⟨k, hk, rfl⟩ := List.mem_map.1 hr
    obtain ⟨c, hc, rfl⟩ := List.mem_map.1 hx
    rw [List.mem_range] at hk hc
    obtain ⟨s, t, hs, ht, rfl⟩ := cd_inv hk
    rw [cd_div ht, cd_mod ht]
    obtain ⟨h1, h2, h3⟩ := h s t c hs ht (by omega)
    by_cases hn : (f s t c).1.1 = -1 ∨ (f s t c).1.2 = -1
    · rw [jE_none hn]; exact Or.inl ⟨rfl, rfl⟩
    · have g1 : 0 ≤ (f s t c).1.1 ∧ (f s t c).1.1 < na := by omega
      have g2 : 0 ≤ (f s t c).1.2 ∧ (f s t c).1.2 < nb := by omega
      obtain ⟨u, hu⟩ := Int.eq_ofNat_of_zero_le g1.1
      obtain ⟨v, hv⟩ := Int.eq_ofNat_of_zero_le g2.1
      rw [jE_some hu hv]
      have := cd_lt (n := nb) (p := na) (s := u) (t := v) (by omega) (by omega)
      have h4 := h3 g1.1 g2.1
      exact Or.inr ⟨by simp only; omega, by simp only; omega, h4.1, h4.2⟩
end
/-- In series. -/
def serF (a b : Ma) (s t c : Nat) : Pz := if (nx a s c).1 = -1 then ((-1, -1), -1) else (((nx a s c).1, (nx b t (nx a s c).2).1), (nx b t (nx a s c).2).2)
/-- In parallel. -/
def parF (a b : Ma) (s t c : Nat) : Pz := (((nx a s c).1, (nx b t c).1), (nx a s c).2 * b.o + (nx b t c).2)
def ser (a b : Ma) : Ma := jm a.i b.o a.r.length b.r.length (serF a b)
def par (a b : Ma) : Ma := jm a.i (a.o * b.o) a.r.length b.r.length (parF a b)
section
variable {a b : Ma}
theorem ser_js (va : Val a) (vb : Val b) (h : a.o = b.i) : JS a.i b.o a.r.length b.r.length (serF a b) := by
  intro s t c hs ht hc
  unfold serF
  have h1 := nx_st va (s := s) (i := c) (Or.inr ⟨by omega, by omega⟩) ⟨by omega, hc⟩
  by_cases hn : (nx a s c).1 = -1
  · rw [if_pos hn]
    exact ⟨Or.inl rfl, Or.inl rfl, fun h => by simp at h⟩
  · rw [if_neg hn]
    have g1 : 0 ≤ (nx a s c).1 ∧ (nx a s c).1 < a.r.length := by rcases h1.1 with e | e <;> omega
    have h2 := nx_st vb (s := t) (i := (nx a s c).2) (Or.inr ⟨by omega, by omega⟩) ⟨h1.2.2.2.2 g1.1, by rw [← h]; exact h1.2.2.2.1⟩
    refine ⟨Or.inr g1, h2.1, fun _ h3 => ⟨h2.2.2.2.2 h3, h2.2.2.2.1⟩⟩
theorem par_js (va : Val a) (vb : Val b) (h : a.i = b.i) : JS a.i (a.o * b.o) a.r.length b.r.length (parF a b) := by
  intro s t c hs ht hc
  have h1 := nx_st va (s := s) (i := c) (Or.inr ⟨by omega, by omega⟩) ⟨by omega, hc⟩
  have h2 := nx_st vb (s := t) (i := c) (Or.inr ⟨by omega, by omega⟩) ⟨by omega, by rw [← h]; exact hc⟩
  refine ⟨h1.1, h2.1, fun g1 g2 => ?_⟩
  have e1 := h1.2.2.2.2 g1
  have e2 := h2.2.2.2.2 g2
  have e3 := h1.2.2.2.1
  have e4 := h2.2.2.2.1
  show 0 ≤ (nx a s c).2 * b.o + (nx b t c).2 ∧ (nx a s c).2 * b.o + (nx b t c).2 < a.o * b.o
  generalize (nx a s c).2 = x at *
  generalize (nx b t c).2 = y at *
  have h5 : x * b.o + b.o ≤ a.o * b.o := by
    have : (x + 1) * b.o ≤ a.o * b.o := Int.mul_le_mul_of_nonneg_right (by omega) (by omega)
    rwa [Int.add_mul, Int.one_mul] at this
  have h6 : 0 ≤ x * b.o := Int.mul_nonneg e1 (by omega)
  omega
theorem ser_vx (va : Val a) (vb : Val b) (h : a.o = b.i) : Vx (ser a b) := jm_vx va.i0 vb.o0 va.r0 vb.r0 (ser_js va vb h)
theorem par_vx (va : Val a) (vb : Val b) (h : a.i = b.i) : Vx (par a b) := jm_vx va.i0 (by have h1 := va.o0; have h2 := vb.o0; have := Int.mul_le_mul h1 h2 (by omega) (by omega); omega) va.r0 vb.r0 (par_js va vb h)
end
end Go.Proofs.Ytgafpmgdpigliaa.Mc
