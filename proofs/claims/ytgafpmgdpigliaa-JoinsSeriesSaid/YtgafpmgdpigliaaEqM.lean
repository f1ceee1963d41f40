/-
  The mathematics of equality: pairs of states after the same words, the least word on which two machines differ, both machines as one. No program. No statement is proved here.
-/
import Derived.Test.YtgafpmgdpigliaaEqB
import Derived.Test.YtgafpmgdpigliaaQnZ
import Derived.Test.YtgafpmgdpigliaaSpM
namespace Go.Proofs.Ytgafpmgdpigliaa.Mc
open M (rk)

/-! ### Pairs -/
/-- The number of a pair of states, each of which may be none. -/
def cd (n : Nat) (s t : Int) : Int := if 0 ≤ s ∧ 0 ≤ t then s * n + t else -1
/-- The machine of pairs. -/
def pr (a b : Ma) : Ma := ⟨a.i, 1, (List.range (a.r.length * b.r.length)).map fun k => (List.range a.i.toNat).map fun (i : Nat) => (cd b.r.length (nx a ((k / b.r.length : Nat) : Int) (i : Int)).1 (nx b ((k % b.r.length : Nat) : Int) (i : Int)).1, 0)⟩
section
variable {a b : Ma}
theorem pr_len (a b : Ma) : (pr a b).r.length = a.r.length * b.r.length := by simp [pr]
theorem pr_i (a b : Ma) : (pr a b).i = a.i := rfl
theorem cd_nat (n s t : Nat) : cd n s t = ((s * n + t : Nat) : Int) := by unfold cd; rw [if_pos (by omega)]; simp
theorem cd_lt {n p s t : Nat} (hs : s < p) (ht : t < n) : s * n + t < p * n := by
  have h : (s + 1) * n ≤ p * n := Nat.mul_le_mul_right n hs
  rw [Nat.add_mul, Nat.one_mul] at h
  omega
theorem cd_div {n s t : Nat} (ht : t < n) : (s * n + t) / n = s := by rw [Nat.mul_comm, Nat.mul_add_div (by omega), Nat.div_eq_of_lt ht, Nat.add_zero]
theorem cd_mod {n s t : Nat} (ht : t < n) : (s * n + t) % n = t := by rw [Nat.mul_comm, Nat.mul_add_mod, Nat.mod_eq_of_lt ht]
theorem cd_none1 (n : Nat) (t : Int) : cd n (-1) t = -1 := if_neg (by omega)
theorem cd_none2 (n : Nat) (s : Int) : cd n s (-1) = -1 := if_neg (by omega)
theorem cd_st {x y : Int} (hx : St a x) (hy : St b y) : St (pr a b) (cd b.r.length x y) := by
  rcases hx with rfl | ⟨h1, h2⟩
  · rw [cd_none1]; exact Or.inl rfl
  · rcases hy with rfl | ⟨h3, h4⟩
    · rw [cd_none2]; exact Or.inl rfl
    · obtain ⟨x, rfl⟩ := Int.eq_ofNat_of_zero_le h1
      obtain ⟨y, rfl⟩ := Int.eq_ofNat_of_zero_le h3
      rw [cd_nat]
      refine Or.inr ⟨by omega, ?_⟩
      rw [pr_len]
      have := cd_lt (n := b.r.length) (p := a.r.length) (s := x) (t := y) (by omega) (by omega)
      omega
theorem cd_inv {n p k : Nat} (hk : k < p * n) : ∃ s t, s < p ∧ t < n ∧ k = s * n + t := by
  have hn : 0 < n := by
    rcases Nat.eq_zero_or_pos n with h | h
    · subst h; simp at hk
    · exact h
  exact ⟨k / n, k % n, Nat.div_lt_of_lt_mul (by rw [Nat.mul_comm]; exact hk), Nat.mod_lt _ hn, by have := Nat.div_add_mod k n; rw [Nat.mul_comm] at this; exact this.symm⟩
theorem cd_inj {n s t s' t' : Nat} (ht : t < n) (ht' : t' < n) (h : s * n + t = s' * n + t') : s = s' ∧ t = t' := by
  have h1 := cd_div (s := s) ht
  have h2 := cd_mod (s := s) ht
  rw [h, cd_div ht'] at h1
  rw [h, cd_mod ht'] at h2
  exact ⟨h1.symm, h2.symm⟩
theorem pr_at {s t i : Nat} (hs : s < a.r.length) (ht : t < b.r.length) (hi : (i : Int) < a.i) : nx (pr a b) ((s * b.r.length + t : Nat) : Int) (i : Int) = (cd b.r.length (nx a s i).1 (nx b t i).1, 0) := by
  have h1 := cd_lt hs ht
  refine nx_at (row := (List.range a.i.toNat).map fun (i : Nat) => (cd b.r.length (nx a (s : Int) (i : Int)).1 (nx b (t : Int) (i : Int)).1, 0)) ?_ ?_
  · unfold pr
    simp only [List.getElem?_map, List.getElem?_range h1, Option.map_some, cd_div ht, cd_mod ht]
  · rw [List.getElem?_map, List.getElem?_range (by omega)]
    rfl
theorem pr_step {s t c : Int} (hs : St a s) (ht : St b t) (hc : 0 ≤ c ∧ c < a.i) : (nx (pr a b) (cd b.r.length s t) c).1 = cd b.r.length (nx a s c).1 (nx b t c).1 := by
  rcases hs with rfl | ⟨h1, h2⟩
  · rw [cd_none1, nx_neg (by omega), nx_neg (m := a) (by omega), cd_none1]
  · rcases ht with rfl | ⟨h3, h4⟩
    · rw [cd_none2, nx_neg (by omega), nx_neg (m := b) (by omega), cd_none2]
    · obtain ⟨s, rfl⟩ := Int.eq_ofNat_of_zero_le h1
      obtain ⟨t, rfl⟩ := Int.eq_ofNat_of_zero_le h3
      obtain ⟨c, rfl⟩ := Int.eq_ofNat_of_zero_le hc.1
      rw [cd_nat, pr_at (by omega) (by omega) hc.2]
theorem pr_aft (va : Val a) (vb : Val b) (hi : a.i = b.i) : ∀ (w : List Int) (s t : Int), St a s → St b t → Wd a w → aft (pr a b) (cd b.r.length s t) w = cd b.r.length (aft a s w) (aft b t w)
  | [], _, _, _, _, _ => rfl
  | c :: w, s, t, hs, ht, hw => by
    have hc := hw c (by simp)
    simp only [aft]
    rw [pr_step hs ht hc]
    exact pr_aft va vb hi w _ _ (nx_st va hs hc).1 (nx_st vb ht (by rw [← hi]; exact hc)).1 (fun d hd => hw d (by simp [hd]))
theorem pr_vq (va : Val a) (vb : Val b) (hi : a.i = b.i) : Vq (pr a b) := by
  refine ⟨va.i0, fun s c hs hc => ?_⟩
  rcases hs with rfl | ⟨h1, h2⟩
  · rw [nx_neg (by omega)]; exact Or.inl rfl
  · obtain ⟨k, rfl⟩ := Int.eq_ofNat_of_zero_le h1
    rw [pr_len] at h2
    obtain ⟨s, t, hs, ht, rfl⟩ := cd_inv (show k < _ by exact_mod_cast h2)
    obtain ⟨c, rfl⟩ := Int.eq_ofNat_of_zero_le hc.1
    rw [pr_at hs ht hc.2]
    exact cd_st (nx_st va (Or.inr ⟨by omega, by omega⟩) hc).1 (nx_st vb (Or.inr ⟨by omega, by omega⟩) (by rw [← hi]; exact hc)).1

/-! ### Where responses part -/
theorem part_at : ∀ (w : List Int) (s t : Int), run a s w ≠ run b t w → ∃ y c z, w = y ++ c :: z ∧ run a s y = run b t y ∧ (nx a (aft a s y) c).2 ≠ (nx b (aft b t y) c).2
  | [], _, _, h => absurd rfl h
  | c :: w, s, t, h => by
    by_cases hc : (nx a s c).2 = (nx b t c).2
    · obtain ⟨y, d, z, h1, h2, h3⟩ := part_at w (nx a s c).1 (nx b t c).1 (fun e => h (by simp only [run]; rw [hc, e]))
      exact ⟨c :: y, d, z, by rw [h1]; rfl, by simp only [run]; rw [hc, h2], h3⟩
    · exact ⟨[], c, w, rfl, rfl, hc⟩
theorem same_none (va : Val a) (vb : Val b) (hi : a.i = b.i) : ∀ (y : List Int) (s t : Int), St a s → St b t → Wd a y → run a s y = run b t y → (s = -1 ↔ t = -1) → (aft a s y = -1 ↔ aft b t y = -1)
  | [], _, _, _, _, _, _, h => h
  | c :: y, s, t, hs, ht, hw, hr, h => by
    have hc := hw c (by simp)
    have hc' : 0 ≤ c ∧ c < b.i := by rw [← hi]; exact hc
    simp only [run, List.cons.injEq] at hr
    simp only [aft]
    refine same_none va vb hi y _ _ (nx_st va hs hc).1 (nx_st vb ht hc').1 (fun d hd => hw d (by simp [hd])) hr.2 ?_
    rw [nx_none va hs hc, nx_none vb ht hc', hr.1]
/-- The least word on which two machines differ. -/
structure Ldw (a b : Ma) (w : List Int) : Prop where
  wd : Wd a w
  ne : run a 0 w ≠ run b 0 w
  le : ∀ v, Wd a v → run a 0 v ≠ run b 0 v → rk a.i w ≤ rk a.i v
theorem Ldw.uniq {w w' : List Int} (hi : 1 ≤ a.i) (h : Ldw a b w) (h' : Ldw a b w') : w = w' := rk_inj hi h.wd h'.wd (by have := h.le w' h'.wd h'.ne; have := h'.le w h.wd h.ne; omega)
theorem Ldw.comm {w : List Int} (hi : a.i = b.i) (h : Ldw a b w) : Ldw b a w := ⟨h.wd.of_i hi, fun e => h.ne e.symm, fun v hv hne => by rw [← hi]; exact h.le v (hv.of_i hi.symm) (fun e => hne e.symm)⟩
theorem Ldw.not {w : List Int} (h : Ldw a b w) : ¬ Sim a b := fun e => h.ne (e.run w h.wd)
theorem rk_pre {n : Int} (hn : 1 ≤ n) {u z : List Int} (hu : M.Val n u) (hz : M.Val n (u ++ z)) : rk n u ≤ rk n (u ++ z) := by
  cases z with
  | nil => simp
  | cons c z => exact Int.le_of_lt (M.rk_short hn (by simp) hu hz)
/-- Both edges of a pair have the same output. -/
def sO (a b : Ma) (k d : Int) : Prop := (nx a (k / b.r.length) d).2 = (nx b (k % b.r.length) d).2
theorem sO_cd {s t : Nat} (ht : t < b.r.length) (d : Int) : sO a b ((s * b.r.length + t : Nat) : Int) d ↔ (nx a s d).2 = (nx b t d).2 := by
  unfold sO
  rw [← Int.natCast_ediv, ← Int.natCast_emod, cd_div ht, cd_mod ht]
section
variable {L : List Wv} (va : Val a) (vb : Val b) (hi : a.i = b.i) (hb : BF (pr a b) 0 L L.length 0)
include va vb hi hb
/-- A word on which they differ leads past a pair of the queue. -/
theorem dif_pair {w : List Int} (hw : Wd a w) (hne : run a 0 w ≠ run b 0 w) : ∃ (q : Nat) (y : Wv) (u : List Int) (c : Int) (z : List Int), L[q]? = some y ∧ w = u ++ c :: z ∧ Lw (pr a b) 0 y.2 y.1 ∧ rk a.i y.2 ≤ rk a.i u ∧ (0 ≤ c ∧ c < a.i) ∧ ¬ sO a b y.1 c ∧ Wd a u := by
  obtain ⟨u, c, z, rfl, h2, h3⟩ := part_at w 0 0 hne
  have hu : Wd a u := fun d hd => hw d (by simp [hd])
  have hc := hw c (by simp)
  have hc' : 0 ≤ c ∧ c < b.i := by rw [← hi]; exact hc
  have sa := aft_st va u 0 (zero_st va) hu
  have sb := aft_st vb u 0 (zero_st vb) (hu.of_i hi)
  have hn := same_none va vb hi u 0 0 (zero_st va) (zero_st vb) hu h2 (by omega)
  have hab : (0 ≤ aft a 0 u ∧ aft a 0 u < a.r.length) ∧ (0 ≤ aft b 0 u ∧ aft b 0 u < b.r.length) := by
    rcases sa with e | e
    · exfalso
      rw [e, hn.1 e, nx_neg (by omega), nx_neg (by omega)] at h3
      exact h3 rfl
    · rcases sb with e2 | e2
      · have := hn.2 e2; omega
      · exact ⟨e, e2⟩
  have hp := pr_aft va vb hi u 0 0 (zero_st va) (zero_st vb) hu
  have h0 : cd b.r.length 0 0 = 0 := by unfold cd; simp
  rw [h0] at hp
  obtain ⟨s, hs⟩ := Int.eq_ofNat_of_zero_le hab.1.1
  obtain ⟨t, ht⟩ := Int.eq_ofNat_of_zero_le hab.2.1
  rw [hs, ht, cd_nat] at hp
  rw [hs] at h3 hab
  rw [ht] at h3 hab
  obtain ⟨e, he, h4⟩ := hb.all u.length u rfl hu (by rw [hp]; omega)
  obtain ⟨q, hq⟩ := List.mem_iff_getElem?.1 he
  have hl := (hb.lw e he).2
  rw [hp] at h4
  refine ⟨q, e, u, c, z, hq, rfl, hl, hl.le u hu (by rw [hp, h4]), hc, ?_, hu⟩
  rw [h4, sO_cd (by omega)]
  exact h3
/-- The first pair whose edges have different outputs, and the first input. -/
theorem ldw_hit {p : Nat} {x : Wv} {c : Int} (hp : L[p]? = some x) (hq : ∀ q y, q < p → L[q]? = some y → ∀ d, 0 ≤ d → d < a.i → sO a b y.1 d) (hc : 0 ≤ c ∧ c < a.i) (hd : ∀ d, 0 ≤ d → d < c → sO a b x.1 d) (hne : ¬ sO a b x.1 c) : Ldw a b (x.2 ++ [c]) := by
  obtain ⟨hx, hl⟩ := hb.lw x (List.mem_of_getElem? hp)
  have hwd : Wd a x.2 := hl.wd
  rw [pr_len] at hx
  obtain ⟨k, hk⟩ := Int.eq_ofNat_of_zero_le hx.1
  obtain ⟨s, t, hs, ht, rfl⟩ := cd_inv (n := b.r.length) (p := a.r.length) (k := k) (by rw [hk] at hx; exact_mod_cast hx.2)
  have hto := hl.to
  have h0 : cd b.r.length 0 0 = 0 := by unfold cd; simp
  have hpa := pr_aft va vb hi x.2 0 0 (zero_st va) (zero_st vb) hwd
  rw [h0, hto, hk] at hpa
  have sa := aft_st va x.2 0 (zero_st va) hwd
  have sb := aft_st vb x.2 0 (zero_st vb) (hwd.of_i hi)
  have hst : aft a 0 x.2 = s ∧ aft b 0 x.2 = t := by
    rcases sa with e | e
    · rw [e, cd_none1] at hpa; omega
    · rcases sb with e2 | e2
      · rw [e2, cd_none2] at hpa; omega
      · obtain ⟨s', hs'⟩ := Int.eq_ofNat_of_zero_le e.1
        obtain ⟨t', ht'⟩ := Int.eq_ofNat_of_zero_le e2.1
        rw [hs', ht', cd_nat] at hpa
        rw [ht'] at e2
        obtain ⟨h1, h2⟩ := cd_inj ht (by omega) (by exact_mod_cast hpa : s * b.r.length + t = s' * b.r.length + t')
        rw [hs', ht', h1, h2]
        exact ⟨rfl, rfl⟩
  refine ⟨Wd.join hwd hc, fun e => ?_, fun v hv hvne => ?_⟩
  · rw [run_app, run_app] at e
    have e2 := List.append_inj_right e (by rw [run_len, run_len])
    rw [hst.1, hst.2] at e2
    simp only [run, List.cons.injEq, and_true] at e2
    rw [hk, sO_cd ht] at hne
    exact hne e2
  · obtain ⟨q, y, u, d, z, h1, rfl, h3, h4, h5, h6, h7⟩ := dif_pair va vb hi hb hv hvne
    have hpre : rk a.i (u ++ [d]) ≤ rk a.i (u ++ d :: z) := by
      rw [show u ++ d :: z = (u ++ [d]) ++ z by simp]
      refine rk_pre va.i0 (Wd.join h7 h5) (show Wd a _ from ?_)
      rw [show (u ++ [d]) ++ z = u ++ d :: z by simp]
      exact hv
    refine Int.le_trans ?_ hpre
    have hpq : p ≤ q := by
      rcases Nat.lt_or_ge q p with h8 | h8
      · exact absurd (hq q y h8 h1 d h5.1 h5.2) h6
      · exact h8
    have hle : rk a.i x.2 ≤ rk a.i y.2 := by
      rcases Nat.lt_or_ge p q with h8 | h8
      · exact Int.le_of_lt (hb.lt_of hp h1 h8)
      · have : p = q := by omega
        subst this
        rw [hp] at h1
        injection h1 with h1
        rw [h1]
        exact Int.le_refl _
    rcases Int.lt_or_le (rk a.i x.2) (rk a.i u) with h8 | h8
    · exact Int.le_of_lt (rk_child va.i0 h8 hc.2 h5.1)
    · have hxu : x.2 = u := rk_inj va.i0 hwd h7 (by omega)
      have hqp : q = p := by
        rcases Nat.lt_or_ge p q with h9 | h9
        · have := hb.lt_of hp h1 h9
          have : rk a.i x.2 < rk a.i y.2 := this
          omega
        · omega
      subst hqp
      rw [hp] at h1
      injection h1 with h1
      subst h1
      rw [hxu, rk_last]
      rcases Int.lt_or_le d c with h9 | h9
      · exact absurd (hd d h5.1 h9) h6
      · exact h9
/-- No pair of the queue parts: the machines are equal. -/
theorem sim_none (hq : ∀ (q : Nat) (y : Wv), L[q]? = some y → ∀ d, 0 ≤ d → d < a.i → sO a b y.1 d) : Sim a b := by
  refine ⟨hi, fun w hw => ?_⟩
  refine Classical.byContradiction fun hne => ?_
  obtain ⟨q, y, u, d, z, h1, _, _, _, h5, h6, _⟩ := dif_pair va vb hi hb hw hne
  exact h6 (hq q y h1 d h5.1 h5.2)
end

/-! ### Both machines as one -/
def sh (n : Nat) (x : Ed) : Ed := if 0 ≤ x.1 then (x.1 + n, x.2) else x
def shs (n : Nat) (t : Int) : Int := if 0 ≤ t then t + n else t
def bes (a b : Ma) : Ma := ⟨a.i, max a.o b.o, a.r ++ b.r.map fun row => row.map (sh a.r.length)⟩
theorem bes_len (a b : Ma) : (bes a b).r.length = a.r.length + b.r.length := by simp [bes]
theorem bes_at1 {s : Nat} {row : List Ed} (h : a.r[s]? = some row) : (bes a b).r[s]? = some row := by
  unfold bes
  rw [List.getElem?_append_left (List.getElem?_eq_some_iff.1 h).1]
  exact h
theorem bes_at2 {t : Nat} {row : List Ed} (h : b.r[t]? = some row) : (bes a b).r[a.r.length + t]? = some (row.map (sh a.r.length)) := by
  unfold bes
  rw [List.getElem?_append_right (by omega), Nat.add_sub_cancel_left, List.getElem?_map, h]
  rfl
theorem sh_out (n : Nat) (x : Ed) : (sh n x).2 = x.2 := by unfold sh; split <;> rfl
theorem sh_to (n : Nat) (x : Ed) : (sh n x).1 = shs n x.1 := by unfold sh shs; split <;> rfl
theorem bes_val (va : Val a) (vb : Val b) (hi : a.i = b.i) (hl : a.r.length + b.r.length ≤ 64) : Val (bes a b) := by
  have h1 := va.o0; have h2 := va.o1; have h3 := vb.o0; have h4 := vb.o1; have h5 := va.r0
  have ho : (bes a b).o = max a.o b.o := rfl
  refine ⟨va.i0, va.i1, by rw [ho]; omega, by rw [ho]; omega, by rw [bes_len]; omega, by rw [bes_len]; exact hl, fun row hr => ?_, fun row hr x hx => ?_⟩
  · rcases List.mem_append.1 hr with hr | hr
    · exact va.len row hr
    · obtain ⟨r2, h6, rfl⟩ := List.mem_map.1 hr
      rw [List.length_map]
      exact (vb.len r2 h6).trans hi.symm
  · rw [bes_len, ho]
    rcases List.mem_append.1 hr with hr | hr
    · rcases va.ok row hr x hx with ⟨e1, e2⟩ | ⟨e1, e2, e3, e4⟩
      · exact Or.inl ⟨e1, e2⟩
      · exact Or.inr ⟨e1, by omega, e3, by omega⟩
    · obtain ⟨r2, h6, rfl⟩ := List.mem_map.1 hr
      obtain ⟨y, h7, rfl⟩ := List.mem_map.1 hx
      rcases vb.ok r2 h6 y h7 with ⟨e1, e2⟩ | ⟨e1, e2, e3, e4⟩
      · refine Or.inl ?_
        unfold sh
        rw [if_neg (by omega)]
        exact ⟨e1, e2⟩
      · refine Or.inr ?_
        unfold sh
        rw [if_pos e1]
        exact ⟨by simp only; omega, by simp only; omega, e3, by simp only; omega⟩
theorem bes_nx1 {s c : Int} (hs : St a s) : nx (bes a b) s c = nx a s c := by
  rcases hs with rfl | ⟨h1, h2⟩
  · rw [nx_neg (by omega), nx_neg (by omega)]
  · obtain ⟨s, rfl⟩ := Int.eq_ofNat_of_zero_le h1
    have e := List.getElem?_eq_getElem (l := a.r) (i := s) (by omega)
    unfold nx
    rw [if_neg (by omega), if_neg (by omega), Int.toNat_natCast, e, bes_at1 e]
theorem sh_none (n : Nat) : sh n nE = nE := rfl
theorem bes_nx2 {t c : Int} (ht : St b t) : nx (bes a b) (shs a.r.length t) c = sh a.r.length (nx b t c) := by
  rcases ht with rfl | ⟨h1, h2⟩
  · rw [show shs a.r.length (-1) = -1 from rfl, nx_neg (by omega), nx_neg (by omega), sh_none]
  · obtain ⟨t, rfl⟩ := Int.eq_ofNat_of_zero_le h1
    have e := List.getElem?_eq_getElem (l := b.r) (i := t) (by omega)
    have e2 : shs a.r.length (t : Int) = ((a.r.length + t : Nat) : Int) := by unfold shs; rw [if_pos h1]; omega
    rw [e2]
    unfold nx
    rw [if_neg (by omega), if_neg (by omega), Int.toNat_natCast, Int.toNat_natCast, e, bes_at2 e, Option.getD_some, Option.getD_some, List.getElem?_map]
    cases (b.r[t])[c.toNat]? with
    | none => rfl
    | some x => rfl
theorem bes_run1 (va : Val a) : ∀ (w : List Int) (s : Int), St a s → Wd a w → run (bes a b) s w = run a s w
  | [], _, _, _ => rfl
  | c :: w, s, hs, hw => by
    simp only [run]
    rw [bes_nx1 hs, bes_run1 va w _ (nx_st va hs (hw c (by simp))).1 (fun d hd => hw d (by simp [hd]))]
theorem bes_run2 (vb : Val b) : ∀ (w : List Int) (t : Int), St b t → Wd b w → run (bes a b) (shs a.r.length t) w = run b t w
  | [], _, _, _ => rfl
  | c :: w, t, ht, hw => by
    simp only [run]
    rw [bes_nx2 ht, sh_out, sh_to, bes_run2 vb w _ (nx_st vb ht (hw c (by simp))).1 (fun d hd => hw d (by simp [hd]))]
section
variable (va : Val a) (vb : Val b) (hi : a.i = b.i)
include va vb hi
theorem bes_sep {w : List Int} (hw : Wd a w) : run (bes a b) (0 : Nat) w = run (bes a b) (a.r.length : Nat) w ↔ run a 0 w = run b 0 w := by
  have h1 := bes_run1 (b := b) va w 0 (zero_st va) hw
  have h2 := bes_run2 (a := a) vb w 0 (zero_st vb) (hw.of_i hi)
  rw [show shs a.r.length 0 = ((a.r.length : Nat) : Int) by unfold shs; simp] at h2
  rw [h2, show ((0 : Nat) : Int) = 0 from rfl, h1]
variable (hl : a.r.length + b.r.length ≤ 64)
include hl
theorem ldw_sep {w : List Int} (h : Ldw a b w) : sl (bes a b) 0 a.r.length ≠ 0 ∧ w = sepw (bes a b) 0 a.r.length := by
  have v := bes_val va vb hi hl
  have h0 := va.r0
  have h1 := vb.r0
  have hs : 0 < (bes a b).r.length := by rw [bes_len]; omega
  have ht : a.r.length < (bes a b).r.length := by rw [bes_len]; omega
  have hwd : Wd (bes a b) w := h.wd
  have h2 := sw_le v hs ht hwd (fun e => h.ne ((bes_sep va vb hi h.wd).1 e))
  refine ⟨h2.1, rk_inj va.i0 h.wd (sw_wd v _ 0 a.r.length hs ht rfl) ?_⟩
  have h3 := h.le (sepw (bes a b) 0 a.r.length) (sw_wd v _ 0 a.r.length hs ht rfl) (fun e => sw_sep v hs ht h2.1 ((bes_sep va vb hi (sw_wd v _ 0 a.r.length hs ht rfl)).2 e))
  have h4 : rk a.i (sepw (bes a b) 0 a.r.length) ≤ rk a.i w := h2.2
  show rk a.i w = rk a.i _
  omega
theorem sim_sl (h : Sim a b) : sl (bes a b) 0 a.r.length = 0 := by
  have v := bes_val va vb hi hl
  have h0 := va.r0
  have h1 := vb.r0
  have hs : 0 < (bes a b).r.length := by rw [bes_len]; omega
  have ht : a.r.length < (bes a b).r.length := by rw [bes_len]; omega
  refine Classical.byContradiction fun h2 => ?_
  exact sw_sep v hs ht h2 ((bes_sep va vb hi (sw_wd v _ 0 a.r.length hs ht rfl)).2 (h.run _ (sw_wd v _ 0 a.r.length hs ht rfl)))
theorem ldw_len {w : List Int} (h : Ldw a b w) : w.length < a.r.length + b.r.length := by
  have v := bes_val va vb hi hl
  have h0 := va.r0
  have h1 := vb.r0
  rw [(ldw_sep va vb hi hl h).2, sepw_len, ← bes_len]
  exact sl_lt v (by rw [bes_len]; omega) (by rw [bes_len]; omega)
end
/-- All but the last symbol of the least word have equal responses. -/
theorem Ldw.pre {w : List Int} {c : Int} (hi : 1 ≤ a.i) (h : Ldw a b (w ++ [c])) : run a 0 w = run b 0 w := by
  refine Classical.byContradiction fun hne => ?_
  have h1 := Wd.split h.wd
  have h2 := h.le w h1.1 hne
  have h3 := rk_parent hi (u := w) (c := c) h1.1 h1.2.1
  omega
theorem Ldw.pos {w : List Int} (h : Ldw a b w) : w ≠ [] := fun e => by subst e; exact h.ne rfl
end
end Go.Proofs.Ytgafpmgdpigliaa.Mc
