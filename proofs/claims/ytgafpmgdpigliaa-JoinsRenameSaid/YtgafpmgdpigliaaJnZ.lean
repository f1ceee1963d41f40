/-
  Several texts in one: JnM, Jn0, JnR. No statement is proved here.
-/
import Derived.Test.YtgafpmgdpigliaaJoC
namespace Go.Proofs.Ytgafpmgdpigliaa
open Go.RowKit
open Mc (Ed Ma Wv nE)

/-- The renamed machine. -/
def renM (a : Ma) (ins outs sts : List Int) : Ma := ⟨a.i, a.o, renT a ins outs sts a.r.length a.i.toNat⟩
def gzN (l : List Int) (z : Int) : Int := (l[z.toNat]?).getD 0
/-- States and outputs with other numbers: what is undefined stays so. -/
def osN (l : List Int) (z : Int) : Int := if 0 ≤ z then gzN l z else -1
/-- Three permutations as large as the machine. -/
structure RnJ (a : Ma) (ins outs sts : List Int) : Prop where
  va : Mc.Val a
  di : Dst ins a.i.toNat
  li : ins.length = a.i.toNat
  do_ : Dst outs a.o.toNat
  lo : outs.length = a.o.toNat
  ds : Dst sts a.r.length
  ls : sts.length = a.r.length
theorem gzN_at {l : List Int} {n : Nat} (h : Dst l n) (hl : l.length = n) {z : Int} (h0 : 0 ≤ z) (h1 : z < n) : l[z.toNat]? = some (gzN l z) ∧ 0 ≤ gzN l z ∧ gzN l z < n := by
  have h2 : z.toNat < l.length := by omega
  have h3 : l[z.toNat]? = some l[z.toNat] := List.getElem?_eq_getElem h2
  have h4 : gzN l z = l[z.toNat] := by unfold gzN; rw [h3]; rfl
  rw [h4]
  exact ⟨h3, h.2 _ (List.getElem_mem h2)⟩
section
variable {a : Ma} {ins outs sts : List Int}
theorem rn_nx (R : RnJ a ins outs sts) {s c : Int} (hs : 0 ≤ s ∧ s < a.r.length) (hc : 0 ≤ c ∧ c < a.i) :
    Mc.nx (renM a ins outs sts) (gzN sts s) (gzN ins c) = (osN sts (Mc.nx a s c).1, osN outs (Mc.nx a s c).2) := by
  obtain ⟨s1, s2, s3⟩ := gzN_at R.ds R.ls hs.1 hs.2
  obtain ⟨c1, c2, c3⟩ := gzN_at R.di R.li hc.1 (by omega)
  have h1 := Mc.nx_st R.va (s := s) (i := c) (Or.inr hs) hc
  have e1 : Mc.nx (renM a ins outs sts) (gzN sts s) (gzN ins c) = rnT a ins outs sts (gzN sts s).toNat (gzN ins c).toNat := by
    unfold Mc.nx
    rw [if_neg (by omega)]
    show (((mkR a.r.length a.i.toNat (rnT a ins outs sts))[(gzN sts s).toNat]?.getD [])[(gzN ins c).toNat]?).getD nE = _
    rw [mkR_at (by omega)]
    show (((List.range a.i.toNat).map _)[(gzN ins c).toNat]?).getD nE = _
    rw [List.getElem?_map, List.getElem?_range (by omega)]
    rfl
  have e2 : Mc.nx a s c = edA a s.toNat c.toNat := by
    unfold Mc.nx edA
    rw [if_neg (by omega)]
  rw [e1]
  unfold rnT
  rw [show (((gzN sts s).toNat : Nat) : Int) = gzN sts s by omega, show (((gzN ins c).toNat : Nat) : Int) = gzN ins c by omega, idx_at R.ds.1 s1, idx_at R.di.1 c1, ← e2]
  obtain ⟨q, hq⟩ : ∃ q, Mc.nx a s c = q := ⟨_, rfl⟩
  rw [hq] at h1 ⊢
  obtain ⟨x, y⟩ := q
  obtain ⟨h2, h3, _, _, h4⟩ := h1
  simp only at h2 h3 h4 ⊢
  unfold rnE
  rcases h2 with rfl | ⟨h5, _⟩
  · rw [h3 rfl]
    rfl
  · have h6 := h4 h5
    rw [if_neg (show ¬ x = -1 by omega)]
    unfold osN
    rw [if_pos h5, if_pos h6]
    rfl
/-- The response of the renamed machine to the renamed word. -/
theorem rn_run (R : RnJ a ins outs sts) : ∀ (w : List Int) (s : Int), Mc.St a s → Mc.Wd a w → Mc.run (renM a ins outs sts) (osN sts s) (w.map (gzN ins)) = (Mc.run a s w).map (osN outs)
  | [], _, _, _ => rfl
  | c :: w, s, hs, hw => by
    have hc := hw c (by simp)
    have hw' : Mc.Wd a w := fun x hx => hw x (by simp [hx])
    have h1 := Mc.nx_st R.va hs hc
    have ih := rn_run R w (Mc.nx a s c).1 h1.1 hw'
    have e : Mc.nx (renM a ins outs sts) (osN sts s) (gzN ins c) = (osN sts (Mc.nx a s c).1, osN outs (Mc.nx a s c).2) := by
      rcases hs with rfl | hs
      · rw [show Mc.nx a (-1) c = nE from by unfold Mc.nx; rw [if_pos (by omega)]]
        show Mc.nx _ (-1) _ = _
        unfold Mc.nx
        rw [if_pos (by omega)]
        rfl
      · rw [show osN sts s = gzN sts s by unfold osN; rw [if_pos hs.1]]
        exact rn_nx R hs hc
    show (Mc.nx (renM a ins outs sts) (osN sts s) (gzN ins c)).2 :: Mc.run _ (Mc.nx (renM a ins outs sts) (osN sts s) (gzN ins c)).1 (w.map (gzN ins)) = osN outs (Mc.nx a s c).2 :: (Mc.run a (Mc.nx a s c).1 w).map (osN outs)
    rw [e]
    show _ :: Mc.run _ (osN sts (Mc.nx a s c).1) _ = _
    rw [ih]
end
/-! ### Back again -/
/-- The inverse list. -/
def invN (l : List Int) : List Int := (List.range l.length).map fun t : Nat => ((l.idxOf (t : Int) : Nat) : Int)
theorem invN_len (l : List Int) : (invN l).length = l.length := by simp [invN]
theorem invN_at (l : List Int) {t : Nat} (h : t < l.length) : (invN l)[t]? = some ((l.idxOf (t : Int) : Nat) : Int) := by
  unfold invN
  rw [List.getElem?_map, List.getElem?_range h]
  rfl
/-- The inverse at a value. -/
theorem invN_val {l : List Int} {n : Nat} (h : Dst l n) (hl : l.length = n) {z : Int} (h0 : 0 ≤ z) (h1 : z < n) : (invN l)[(gzN l z).toNat]? = some z := by
  obtain ⟨e1, e2, e3⟩ := gzN_at h hl h0 h1
  rw [invN_at l (by omega), show (((gzN l z).toNat : Nat) : Int) = gzN l z by omega, idx_at h.1 e1]
  congr 1
  omega
theorem invN_dst {l : List Int} {n : Nat} (h : Dst l n) (hl : l.length = n) : Dst (invN l) n := by
  constructor
  · refine List.pairwise_map.2 (List.Pairwise.imp_of_mem (fun {i j} hi hj hij e => ?_) (List.nodup_range (n := l.length)))
    have hi := List.mem_range.1 hi
    have hj := List.mem_range.1 hj
    have h1 := h.mem hl (t := i) (by omega)
    have h2 := h.mem hl (t := j) (by omega)
    have h3 : l[l.idxOf (i : Int)]'(List.idxOf_lt_length_of_mem h1) = (i : Int) := List.getElem_idxOf _
    have h4 : l[l.idxOf (j : Int)]'(List.idxOf_lt_length_of_mem h2) = (j : Int) := List.getElem_idxOf _
    have h5 : l.idxOf (i : Int) = l.idxOf (j : Int) := by omega
    have h6 : (i : Int) = j := by rw [← h3, ← h4]; congr 1
    exact hij (by omega)
  · intro z hz
    obtain ⟨t, ht⟩ := List.mem_iff_getElem?.1 hz
    have h1 : t < l.length := by have := (List.getElem?_eq_some_iff.1 ht).1; rwa [invN_len] at this
    rw [invN_at l h1] at ht
    injection ht with ht
    have h2 := List.idxOf_lt_length_of_mem (h.mem hl (t := t) (by omega))
    omega
section
variable {a : Ma} {ins outs sts : List Int}
theorem rn_len : (renM a ins outs sts).r.length = a.r.length := mkR_len
theorem rn_val (R : RnJ a ins outs sts) : Mc.Val (renM a ins outs sts) := by
  have v := R.va
  refine ⟨v.i0, v.i1, v.o0, v.o1, by rw [rn_len]; exact v.r0, by rw [rn_len]; exact v.r1, ?_, ?_⟩
  · intro row hr
    obtain ⟨t, ht, rfl⟩ := List.mem_map.1 (show row ∈ mkR _ _ _ from hr)
    have := v.i0
    show ((((List.range a.i.toNat).map _).length : Nat) : Int) = a.i
    rw [List.length_map, List.length_range]
    omega
  · intro row hr x hx
    obtain ⟨t, ht, rfl⟩ := List.mem_map.1 (show row ∈ mkR _ _ _ from hr)
    obtain ⟨c, hc, rfl⟩ := List.mem_map.1 hx
    have ht := List.mem_range.1 ht
    have hc := List.mem_range.1 hc
    have h1 := List.idxOf_lt_length_of_mem (R.ds.mem R.ls ht)
    have h2 := List.idxOf_lt_length_of_mem (R.di.mem R.li hc)
    have h3 := Mc.nx_st v (s := (sts.idxOf (t : Int) : Nat)) (i := (ins.idxOf (c : Int) : Nat)) (Or.inr ⟨by omega, by rw [← R.ls]; omega⟩) ⟨by omega, by rw [R.li] at h2; omega⟩
    have e2 : Mc.nx a (sts.idxOf (t : Int) : Nat) (ins.idxOf (c : Int) : Nat) = edA a (sts.idxOf (t : Int)) (ins.idxOf (c : Int)) := by
      unfold Mc.nx edA
      rw [if_neg (by omega)]
      rfl
    show ((rnT a ins outs sts t c).1 = -1 ∧ (rnT a ins outs sts t c).2 = -1) ∨ _
    rw [rn_len]
    unfold rnT
    rw [← e2]
    obtain ⟨q, hq⟩ : ∃ q, Mc.nx a (sts.idxOf (t : Int) : Nat) (ins.idxOf (c : Int) : Nat) = q := ⟨_, rfl⟩
    rw [hq] at h3 ⊢
    obtain ⟨x, y⟩ := q
    obtain ⟨g1, g2, g3, g4, g5⟩ := h3
    simp only at g1 g2 g3 g4 g5
    unfold rnE
    rcases g1 with rfl | ⟨g6, g7⟩
    · exact Or.inl ⟨rfl, rfl⟩
    · right
      rw [if_neg (show ¬ x = -1 by omega)]
      have h7 := gzN_at R.ds R.ls g6 g7
      have h8 := gzN_at R.do_ R.lo (g5 g6) (by have := v.o0; omega)
      have := v.o0
      exact ⟨h7.2.1, h7.2.2, h8.2.1, by have := h8.2.2; show gzN outs y < a.o; omega⟩
theorem rn_back (R : RnJ a ins outs sts) : renT (renM a ins outs sts) (invN ins) (invN outs) (invN sts) a.r.length a.i.toNat = a.r := by
  have v := R.va
  refine List.ext_getElem? fun s => ?_
  rcases Nat.lt_or_ge s a.r.length with hs | hs
  · unfold renT
    rw [mkR_at hs, List.getElem?_eq_getElem hs]
    congr 1
    have hl : (a.r[s].length : Int) = a.i := v.len _ (List.getElem_mem hs)
    refine List.ext_getElem? fun c => ?_
    rcases Nat.lt_or_ge c a.i.toNat with hc | hc
    · rw [List.getElem?_map, List.getElem?_range hc, List.getElem?_eq_getElem (by omega)]
      show some (rnT _ _ _ _ s c) = _
      congr 1
      have hc' : (0 : Int) ≤ c ∧ (c : Int) < a.i := by omega
      obtain ⟨s1, s2, s3⟩ := gzN_at R.ds R.ls (z := s) (by omega) (by omega)
      obtain ⟨c1, c2, c3⟩ := gzN_at R.di R.li (z := c) (by omega) (by omega)
      have i1 : (invN sts).idxOf (s : Int) = (gzN sts s).toNat := idx_at (invN_dst R.ds R.ls).1 (invN_val R.ds R.ls (by omega) (by omega))
      have i2 : (invN ins).idxOf (c : Int) = (gzN ins c).toNat := idx_at (invN_dst R.di R.li).1 (invN_val R.di R.li (by omega) (by omega))
      have h1 := Mc.nx_st v (s := s) (i := c) (Or.inr ⟨by omega, by omega⟩) hc'
      have h2 := rn_nx R (s := s) (c := c) ⟨by omega, by omega⟩ hc'
      have e2 : Mc.nx a (s : Int) (c : Int) = a.r[s][c] := by
        unfold Mc.nx
        rw [if_neg (by omega)]
        show ((a.r[s]?.getD [])[c]?).getD nE = _
        rw [List.getElem?_eq_getElem hs]
        show (a.r[s][c]?).getD nE = _
        rw [List.getElem?_eq_getElem (by omega)]
        rfl
      have e3 : edA (renM a ins outs sts) (gzN sts s).toNat (gzN ins c).toNat = Mc.nx (renM a ins outs sts) (gzN sts s) (gzN ins c) := by
        unfold Mc.nx edA
        rw [if_neg (by omega)]
      unfold rnT
      rw [i1, i2, e3, h2, ← e2]
      obtain ⟨q, hq⟩ : ∃ q, Mc.nx a (s : Int) (c : Int) = q := ⟨_, rfl⟩
      rw [hq] at h1 ⊢
      obtain ⟨x, y⟩ := q
      obtain ⟨g1, g2, g3, g4, g5⟩ := h1
      simp only at g1 g2 g3 g4 g5
      unfold rnE osN
      rcases g1 with rfl | ⟨g6, g7⟩
      · rw [g2 rfl]
        rfl
      · have h7 := gzN_at R.ds R.ls g6 g7
        have h8 := invN_val R.ds R.ls g6 g7
        have g9 := g5 g6
        have h9 := invN_val R.do_ R.lo g9 (by have := v.o0; omega)
        simp only [if_pos g6, if_pos g9]
        rw [if_neg (by omega), h8, h9]
        rfl
    · rw [List.getElem?_eq_none (by simpa using hc), List.getElem?_eq_none (by omega)]
  · rw [List.getElem?_eq_none (by unfold renT; rw [mkR_len]; exact hs), List.getElem?_eq_none hs]
end
end Go.Proofs.Ytgafpmgdpigliaa

namespace Go.Proofs.Ytgafpmgdpigliaa
open Go.RowKit
open Mc (Ed Ma)

/-- Does each number below the length stand there once? -/
def permV (l : List Int) : Int := if (List.range l.length).all (fun k => l.count (k : Int) == 1) then 1 else 0
theorem permV_yes {l : List Int} (h : ∀ q : Nat, q < l.length → l.count (q : Int) = 1) : permV l = 1 := by
  unfold permV
  rw [if_pos]
  rw [List.all_eq_true]
  intro k hk
  rw [h k (List.mem_range.1 hk)]
  rfl
theorem permV_no {l : List Int} {q : Nat} (hq : q < l.length) (h : l.count (q : Int) ≠ 1) : permV l = 0 := by
  unfold permV
  rw [if_neg]
  rw [List.all_eq_true]
  intro hall
  exact h (by simpa using hall q (List.mem_range.2 hq))
/-! ### Those that do are the permutations -/
theorem inr_step (l : List Int) (n : Nat) : l.countP (fun z => decide (0 ≤ z ∧ z < ((n + 1 : Nat) : Int))) = l.countP (fun z => decide (0 ≤ z ∧ z < (n : Int))) + l.count (n : Int) := by
  induction l with
  | nil => rfl
  | cons x l ih =>
    rw [List.countP_cons, List.countP_cons, List.count_cons, ih]
    by_cases h1 : x = (n : Int)
    · subst h1
      rw [if_pos (decide_eq_true (by omega)), if_neg (by simp), if_pos (by simp)]
      omega
    · rw [if_neg (show ¬ (x == (n : Int)) = true by simpa using h1)]
      by_cases h2 : 0 ≤ x ∧ x < (n : Int)
      · rw [if_pos (decide_eq_true (by omega)), if_pos (decide_eq_true h2)]
        omega
      · rw [if_neg (by simp only [decide_eq_true_eq]; omega), if_neg (by simpa using h2)]
        omega
theorem inr_zero (l : List Int) : l.countP (fun z => decide (0 ≤ z ∧ z < ((0 : Nat) : Int))) = 0 := by
  rw [List.countP_eq_zero]
  intro z _ h
  have := of_decide_eq_true h
  omega
theorem inr_one {l : List Int} : ∀ {n : Nat}, (∀ q : Nat, q < n → l.count (q : Int) = 1) → l.countP (fun z => decide (0 ≤ z ∧ z < (n : Int))) = n
  | 0, _ => inr_zero l
  | n + 1, h => by rw [inr_step, inr_one (n := n) fun q hq => h q (by omega), h n (by omega)]
theorem inr_le {l : List Int} : ∀ {n : Nat}, (∀ q : Nat, q < n → l.count (q : Int) ≤ 1) → l.countP (fun z => decide (0 ≤ z ∧ z < (n : Int))) ≤ n
  | 0, _ => by rw [inr_zero]; omega
  | n + 1, h => by
    have h1 := inr_le (n := n) fun q hq => h q (by omega)
    have h2 := h n (by omega)
    rw [inr_step]
    omega
theorem inr_lt {l : List Int} {q0 : Nat} (h0 : l.count (q0 : Int) = 0) : ∀ {n : Nat}, q0 < n → (∀ q : Nat, q < n → l.count (q : Int) ≤ 1) → l.countP (fun z => decide (0 ≤ z ∧ z < (n : Int))) < n
  | 0, hq, _ => absurd hq (Nat.not_lt_zero _)
  | n + 1, hq, h => by
    have h2 := h n (by omega)
    rw [inr_step]
    by_cases h1 : q0 = n
    · subst h1
      have h3 := inr_le (n := q0) fun q hq => h q (by omega)
      omega
    · have h3 := inr_lt h0 (n := n) (by omega) fun q hq => h q (by omega)
      omega
theorem perm_dst {l : List Int} : (∀ q : Nat, q < l.length → l.count (q : Int) = 1) ↔ Dst l l.length := by
  constructor
  · intro h
    have h1 := inr_one h
    rw [List.countP_eq_length] at h1
    have h2 : ∀ z ∈ l, 0 ≤ z ∧ z < (l.length : Int) := fun z hz => of_decide_eq_true (h1 z hz)
    refine ⟨List.nodup_iff_count.2 fun z => ?_, h2⟩
    by_cases hz : z ∈ l
    · have h3 := h2 z hz
      have h4 := h z.toNat (by omega)
      rw [show ((z.toNat : Nat) : Int) = z by omega] at h4
      omega
    · rw [List.count_eq_zero.2 hz]
      omega
  · rintro ⟨hn, hr⟩ q hq
    have h1 : ∀ q : Nat, q < l.length → l.count (q : Int) ≤ 1 := fun q _ => List.nodup_iff_count.1 hn q
    have h2 := h1 q hq
    rcases Nat.lt_or_ge 0 (l.count (q : Int)) with h3 | h3
    · omega
    · have h4 := inr_lt (l := l) (q0 := q) (by omega) hq h1
      rw [List.countP_eq_length.2 fun z hz => decide_eq_true (hr z hz)] at h4
      omega
theorem permV_dst (l : List Int) : permV l = if Dst l l.length then 1 else 0 := by
  by_cases h : Dst l l.length
  · rw [if_pos h]; exact permV_yes (perm_dst.2 h)
  · rw [if_neg h]
    unfold permV
    rw [if_neg]
    intro h2
    rw [List.all_eq_true] at h2
    exact h (perm_dst.1 fun q hq => by simpa using h2 q (List.mem_range.2 hq))
theorem count_take (l : List Int) (j : Nat) (x k : Int) (h : l[j]? = some x) : (l.take (j + 1)).count k = (l.take j).count k + if x = k then 1 else 0 := by
  rw [List.take_add_one, h]
  simp [List.count_append, List.count_singleton]
set_option maxRecDepth 100000 in
set_option maxHeartbeats 1000000 in
theorem rperm_any (l : List Int) (A : Option Addr) (n c : Nat) (w : World) (hr : Rd w A l) (hl : l.length = n) (hn : n ≤ 1000000) :
    Calls Try.prog 27 #[.slice A n c] w fun e w' => e = .returned (.int .i64 (permV l)) ∧ Below w.heap.size w w' := by
  have HR := Lib.hid hr
  have HL := Lib.hid hl
  clear hr hl
  go_enter Try.func27, Try.ntmps27
  go_wp2
  go_loopw [3] (fun v wr => ∃ k : Nat, k ≤ n ∧ v = .int .i64 k ∧ Hid (∀ q : Nat, q < k → l.count (q : Int) = 1) ∧ Hid (Below w.heap.size w wr)) (fun v _ => n - (intOf v).toNat)
  case atStart => exact ⟨0, Nat.zero_le _, rfl, fun q h => absurd h (Nat.not_lt_zero _), Below.refl _ _⟩
  case round =>
    obtain ⟨k, hk, rfl, hall, hb⟩ := hrel
    by_cases hlt : k < n
    · have hlti : (k : Int) < n := by omega
      go_wp2
      go_loopw [4, 5] (fun u v wr => ∃ (j : Nat) (C : Nat), j ≤ n ∧ v = .int .i64 j ∧ u = .int .i64 C ∧ C ≤ j ∧ Hid ((l.take j).count (k : Int) = C) ∧ Hid (Below w.heap.size w wr)) (fun _ v _ => n - (intOf v).toNat)
      case atStart => exact ⟨0, 0, Nat.zero_le _, rfl, rfl, Nat.le_refl _, by show _ = _; simp, hb⟩
      case round =>
        obtain ⟨j, C, hj, rfl, rfl, hCj, hC, hb2⟩ := hrel
        by_cases hjn : j < n
        · have hjni : (j : Int) < n := by omega
          obtain ⟨g, o, x, rfl, _, x0, hx⟩ := rd_nth (HR.out.below hb2.out) (k := j) (by rw [HL.out]; exact hjn)
          have hct := count_take l j x k hx
          rw [hC.out] at hct
          have HCT := Lib.hid hct
          clear hct hx
          by_cases hxk : x = k
          · have hxd : (x == (k : Int)) = true := by rw [beq_iff_eq]; exact hxk
            have hN : Hid ((l.take (j + 1)).count (k : Int) = C + 1) := by show _ = _; rw [HCT.out, if_pos hxk]
            clear HCT hC hxk
            go_wp2
            go_roundw
            case rel => exact ⟨j + 1, C + 1, by omega, by go_num, by go_num, by omega, hN, hb2⟩
            case measure => simp [intOf]; omega
          · have hxd : (x == (k : Int)) = false := by rw [beq_eq_false_iff_ne]; exact hxk
            have hN : Hid ((l.take (j + 1)).count (k : Int) = C) := by show _ = _; rw [HCT.out, if_neg hxk]; omega
            clear HCT hC hxk
            go_wp2
            go_roundw
            case rel => exact ⟨j + 1, C, by omega, by go_num, rfl, by omega, hN, hb2⟩
            case measure => simp [intOf]; omega
        · have hjni : ¬ (j : Int) < n := by omega
          have hCC : Hid (l.count (k : Int) = C) := by
            show _ = _
            rw [← hC.out, show j = l.length by rw [HL.out]; omega, List.take_length]
          clear hC
          by_cases h1 : C = 1
          · have h1d : ((C : Int) != 1) = false := by subst h1; rfl
            have hN : Hid (∀ q : Nat, q < k + 1 → l.count (q : Int) = 1) := fun q hq => by
              rcases Nat.lt_or_ge q k with h | h
              · exact hall.out q h
              · rw [show q = k by omega, hCC.out, h1]
            clear hall hCC h1
            go_wp2
            go_roundw
            case rel => exact ⟨k + 1, by omega, by go_num, hN, hb2⟩
            case measure => simp [intOf]; omega
          · have h1d : ((C : Int) != 1) = true := by rw [bne_iff_ne]; omega
            have hv : Hid (permV l = 0) := permV_no (q := k) (by rw [HL.out]; exact hlt) (by rw [hCC.out]; exact h1)
            clear hall hCC h1
            go_wp2
            go_ret
            exact ⟨by rw [hv.out]; rfl, hb2.out⟩
    · have hlti : ¬ (k : Int) < n := by omega
      have hv : Hid (permV l = 1) := permV_yes fun q hq => hall.out q (by rw [HL.out] at hq; omega)
      clear hall
      go_wp2
      go_ret
      exact ⟨by rw [hv.out]; rfl, hb.out⟩
end Go.Proofs.Ytgafpmgdpigliaa

namespace Go.Proofs.Ytgafpmgdpigliaa
open Go.RowKit
open Mc (Ed Ma Wv nE)

/-- The error of Rename, as the law asks. -/
def xR (a : Ma) (ins outs sts : List Int) : Int :=
  if (ins.length : Int) ≠ a.i ∨ (outs.length : Int) ≠ a.o ∨ sts.length ≠ a.r.length then 16
  else if permV ins * permV outs * permV sts = 0 ∨ sts[0]? ≠ some 0 then 1 else 0
theorem permV_01 (l : List Int) : permV l = 0 ∨ permV l = 1 := by
  rw [permV_dst]
  by_cases h : Dst l l.length
  · rw [if_pos h]; exact Or.inr rfl
  · rw [if_neg h]; exact Or.inl rfl
theorem perm3 (x y z : List Int) : permV x * permV y * permV z = 0 ↔ ¬ (Dst x x.length ∧ Dst y y.length ∧ Dst z z.length) := by
  rw [permV_dst, permV_dst, permV_dst]
  by_cases h1 : Dst x x.length <;> by_cases h2 : Dst y y.length <;> by_cases h3 : Dst z z.length <;> simp [h1, h2, h3]
theorem kech_x {a : Ma} {ins outs sts : List Int} (va : Mc.Val a) : kech a ins outs sts = xR a ins outs sts := by
  have hi := va.i0
  have ho := va.o0
  unfold kech
  rw [if_neg (by rw [Mc.chk_of va]; simp)]
  unfold kerr xR
  by_cases hl : (ins.length : Int) ≠ a.i ∨ (outs.length : Int) ≠ a.o ∨ sts.length ≠ a.r.length
  · rw [if_pos hl, if_pos]
    rw [Bool.and_eq_false_iff, Bool.and_eq_false_iff]
    rcases hl with h | h | h
    · exact Or.inl (Or.inl (by simpa using h))
    · exact Or.inl (Or.inr (by simpa using h))
    · exact Or.inr (by rw [beq_eq_false_iff_ne]; omega)
  · have h1 : (ins.length : Int) = a.i := by omega
    have h2 : (outs.length : Int) = a.o := by omega
    have h3 : sts.length = a.r.length := by omega
    rw [if_neg hl, if_neg (by simp [h1, h2, h3])]
    have e1 : ins.length = a.i.toNat := by omega
    have e2 : outs.length = a.o.toNat := by omega
    unfold dstB
    rw [← e1, ← e2, ← h3]
    by_cases hp : Dst ins ins.length ∧ Dst outs outs.length ∧ Dst sts sts.length
    · rw [if_neg (by simp [hp.1, hp.2.1, hp.2.2])]
      have hq : ¬ permV ins * permV outs * permV sts = 0 := fun h => (perm3 _ _ _).1 h hp
      unfold zb
      by_cases hz : sts[0]? = some 0
      · rw [if_neg (by simp [hz]), if_neg (by simp [hq, hz])]
      · rw [if_pos (by simpa using hz), if_pos (Or.inr hz)]
    · rw [if_pos (by
        rw [Bool.and_eq_false_iff, Bool.and_eq_false_iff]
        by_cases q1 : Dst ins ins.length
        · by_cases q2 : Dst outs outs.length
          · exact Or.inr (decide_eq_false fun q3 => hp ⟨q1, q2, q3⟩)
          · exact Or.inl (Or.inr (decide_eq_false q2))
        · exact Or.inl (Or.inl (decide_eq_false q1))), if_pos (Or.inl ((perm3 _ _ _).2 hp))]
/-- Where nothing is refused, the lists are permutations. -/
theorem xR_zero {a : Ma} {ins outs sts : List Int} (va : Mc.Val a) (h : xR a ins outs sts = 0) : RnJ a ins outs sts ∧ sts[0]? = some 0 := by
  have hi := va.i0
  have ho := va.o0
  unfold xR at h
  split at h
  · cases h
  · rename_i hl
    split at h
    · cases h
    · rename_i hq
      have h1 : ¬ permV ins * permV outs * permV sts = 0 := fun e => hq (Or.inl e)
      have h2 : sts[0]? = some 0 := Classical.byContradiction fun e => hq (Or.inr e)
      have hp : Dst ins ins.length ∧ Dst outs outs.length ∧ Dst sts sts.length := Classical.byContradiction fun e => h1 ((perm3 _ _ _).2 e)
      have e1 : ins.length = a.i.toNat := by omega
      have e2 : outs.length = a.o.toNat := by omega
      have e3 : sts.length = a.r.length := by omega
      exact ⟨⟨va, by rw [← e1]; exact hp.1, e1, by rw [← e2]; exact hp.2.1, e2, by rw [← e3]; exact hp.2.2, e3⟩, h2⟩
end Go.Proofs.Ytgafpmgdpigliaa
