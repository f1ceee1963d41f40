/-
  Maps of pairs, and the memory of the walk over pairs: what has been found, the queue. No statement is proved here.
-/
import Derived.Test.YtgafpmgdpigliaaEqR
import Derived.Test.YtgafpmgdpigliaaEqM
import Derived.WideKeyPair
import Derived.Maps.OwnOps
import Derived.Maps.Views
namespace Go.Proofs.Ytgafpmgdpigliaa
open Go.RowKit Go.Maps Go.WideMaps
open Mc (Ed Ma Wv)

/-! ### Maps from pairs to true -/
theorem pairArr : ArrKey Try.prog 84 3 2 := ⟨Try.underlying84, by kernel_rfl, by kernel_rfl, by kernel_rfl⟩
theorem pairLaw : Keyed Try.prog 84 := Keyed.of_law pairArr.law
theorem sizeE : ∃ m, Try.prog.types.size = m + 1 := by
  have h := of_decide_eq_true (show decide (1 ≤ Try.prog.types.size) = true by kernel_rfl)
  generalize Try.prog.types.size = n at h ⊢
  exact ⟨n - 1, by omega⟩
theorem zeroB2 (w : World) : (zeroValue 4).run Try.prog w = .ok (.bool false) w := by kernel_rfl
theorem wfE {z : Int} (h1 : 0 ≤ z) (h2 : z ≤ 100000) : (Lit.int .i64 z).wf = true := WalkArith.wf_i64 ⟨by omega, by omega⟩
theorem plainB_inv {P : Program} {e : TypeId} (he : P.underlying e = some .bool) {v : Value} {y : Bool} {ps : List MemPlace} (h : plainElem (H := Unit) P e v = some (.lit (.bool y), ps)) : v = .bool y := by
  unfold plainElem at h
  rw [he] at h
  cases v <;> simp at h
  rw [h.1]
/-- A pair within bounds. -/
def InQ (p : Int × Int) : Prop := (0 ≤ p.1 ∧ p.1 ≤ 100000) ∧ (0 ≤ p.2 ∧ p.2 ≤ 100000)
def kP (p : Int × Int) : Lit := .string (keyBytes [.int .i64 p.1, .int .i64 p.2])
theorem kP_key {p : Int × Int} (h : InQ p) : keyOf Try.prog 84 (.agg #[.int .i64 p.1, .int .i64 p.2]) = some (kP p) := keyOf_pair pairArr Try.underlying3 sizeE (wfE h.1.1 h.1.2) (wfE h.2.1 h.2.2)
theorem kP_inj {p q : Int × Int} (hp : InQ p) (hq : InQ q) (h : kP p = kP q) : p = q := by
  have e := pairLaw.inj (kP_key hp) (h ▸ kP_key hq)
  simp only [Value.agg.injEq] at e
  have e1 := congrArg Array.toList e
  simp at e1
  exact Prod.ext e1.1 e1.2
/-- Block b is a map of at most n pairs: those of S are true. -/
def PSet (w : World) (b n : Nat) (S : List (Int × Int)) : Prop := ∃ D : DataW Unit, w.ownsMap Try.prog 84 (plainElem (H := Unit) Try.prog 4) b n D ∧ (∀ p ∈ S, InQ p) ∧ ∀ p, InQ p → D.atKey (kP p) (.lit (.bool false)) = .lit (.bool (decide (p ∈ S)))
section
variable {w w' : World} {b n : Nat} {S : List (Int × Int)}
theorem PSet.made (w : World) : PSet (w.alloc (.map #[] 0)) w.heap.size 0 [] := ⟨.map [], World.ownsMap_made w _ _ _, fun _ h => by simp at h, fun p _ => by simp; rfl⟩
theorem PSet.lt (h : PSet w b n S) : b < w.heap.size := by obtain ⟨D, h1, _⟩ := h; exact h1.lt
theorem PSet.block (h : PSet w b n S) (hb : w'.heap[b]? = w.heap[b]?) : PSet w' b n S := by
  obtain ⟨D, ⟨es, cl, h1, h2⟩, h3⟩ := h
  exact ⟨D, ⟨es, cl, hb.trans h1, h2⟩, h3⟩
theorem PSet.below (h : PSet w b n S) (k : Below w.heap.size w w') : PSet w' b n S := h.block (k.block b h.lt)
theorem PSet.kce {D : Nat → Prop} {M : Nat} (h : PSet w b n S) (k : KCe D M w w') (hb : ¬ D b) : PSet w' b n S := by
  obtain ⟨E, ⟨es, cl, h1, h2⟩, h3⟩ := h
  exact ⟨E, ⟨es, cl, k.2 b _ hb (Or.inr rfl) h1 rfl, h2⟩, h3⟩
theorem PSet.look (h : PSet w b n S) {x y : Int} (hp : InQ (x, y)) : (Instr.lookup 89 (.map (some b)) (.agg #[.int .i64 x, .int .i64 y]) false).run Try.prog w = .ok (.bool (decide ((x, y) ∈ S))) w := by
  obtain ⟨D, h1, _, h2⟩ := h
  obtain ⟨v, ps, hrun, hv⟩ := h1.lookup pairLaw Try.underlying89 (zeroB2 w) (plainElem_bool Try.underlying4 false) (kP_key hp)
  rw [h2 _ hp] at hv
  obtain rfl := plainB_inv Try.underlying4 hv
  exact hrun
theorem PSet.put (h : PSet w b n S) (hn : n < maxLen) {x y : Int} (hp : InQ (x, y)) : ∃ w', (Instr.mapUpdate 89 (.map (some b)) (.agg #[.int .i64 x, .int .i64 y]) (.bool true)).run Try.prog w = .ok () w' ∧ PSet w' b (n + 1) (S ++ [(x, y)]) ∧ w.grownBy w' (some b) := by
  obtain ⟨D, h1, h3, h2⟩ := h
  obtain ⟨w', hrun, ho, hg⟩ := h1.update pairLaw Try.underlying89 hn (kP_key hp) (plainElem_bool Try.underlying4 true)
  refine ⟨w', hrun, ⟨_, ho, fun p hp2 => ?_, fun p hp2 => ?_⟩, hg⟩
  · rcases List.mem_append.1 hp2 with h4 | h4
    · exact h3 p h4
    · simp at h4; subst h4; exact hp
  · by_cases e : p = (x, y)
    · subst e
      rw [atKey_put_same h1.isMap (pairLaw.key (kP_key hp2))]
      simp
    · rw [atKey_put_other (fun e1 => e (kP_inj hp2 hp e1)), h2 p hp2]
      simp [e]
end

/-! ### The queue -/
/-- Pairs from base on lie as they lay. -/
def KpE (base : Nat) (W W' : World) : Prop := ∀ (b : Nat) cs fr, base ≤ b → W.heap[b]? = some (.cells cs 86 fr) → W'.heap[b]? = some (.cells cs 86 fr)
theorem KpE.of_kce {base M : Nat} {D : Nat → Prop} {W W' : World} (h : KCe D M W W') (hD : ∀ b, D b → b < base) : KpE base W W' := fun b cs fr hb ho => h.2 b _ (fun h1 => by have := hD b h1; omega) (Or.inr rfl) ho rfl
theorem KpE.of_below {base : Nat} {W W' : World} (h : Below W.heap.size W W') : KpE base W W' := fun b _ _ _ ho => (h.block b (hlt ho)).trans ho
def ptrs (gs : List Nat) : List Value := gs.map fun g => .pointer (some ⟨g, 0, none⟩)
structure QoE (W : World) (base nb : Nat) (Q : List Wv) (V : Value) (gs : List Nat) : Prop where
  len : gs.length = Q.length
  row : W.ownsRow base 83 1 V Q.length (ptrs gs)
  ar : ∀ (k g : Nat) (x : Wv), gs[k]? = some g → Q[k]? = some x → ArP (fun b => base ≤ b) W g nb x
section
variable {W W' : World} {base nb : Nat} {Q : List Wv} {V : Value} {gs : List Nat}
theorem ArP.kpE {g : Nat} {x : Wv} (h : ArP (fun b => base ≤ b) W g nb x) (k : KpE base W W') : ArP (fun b => base ≤ b) W' g nb x := h.mono (fun _ h => h) (fun b _ hb ho => k b _ _ hb ho)
theorem QoE.move (h : QoE W base nb Q V gs) (k : KpE base W W') (hr : W'.ownsRow base 83 1 V Q.length (ptrs gs)) : QoE W' base nb Q V gs := ⟨h.len, hr, fun k' g x h1 h2 => (h.ar k' g x h1 h2).kpE k⟩
theorem row_kce {D : Nat → Prop} {M s n : Nat} {v : Value} {xs : List Value} (h : W.ownsRow base 83 s v n xs) (k : KCe D M W W') (hD : ∀ b, D b → b < base) : W'.ownsRow base 83 s v n xs := by
  refine ⟨h.1, ?_⟩
  rcases h.2 with h0 | ⟨g, cap, cur, e1, hb, hg, rest⟩
  · exact .inl h0
  · exact .inr ⟨g, cap, cur, e1, hb, k.2 g _ (fun h1 => by have := hD g h1; omega) (Or.inr rfl) hg rfl, rest⟩
theorem QoE.kce {D : Nat → Prop} {M : Nat} (h : QoE W base nb Q V gs) (k : KCe D M W W') (hD : ∀ b, D b → b < base) : QoE W' base nb Q V gs := h.move (KpE.of_kce k hD) (row_kce h.row k hD)
theorem QoE.form (h : QoE W base nb Q V gs) (hp : 0 < Q.length) : ∃ g c cur, V = .slice (some ⟨g, 0, none⟩) Q.length c ∧ base ≤ g ∧ W.heap[g]? = some (.cells cur 83 (0, 0)) ∧ Q.length ≤ c := by
  rcases h.row.2 with ⟨_, h0⟩ | ⟨g, cap, cur, e1, hb, hg, hc, hm, hs, _⟩
  · omega
  · exact ⟨g, cap, cur, e1, hb, hg, hc⟩
theorem QoE.at_ (h : QoE W base nb Q V gs) {k : Nat} {x : Wv} (hk : Q[k]? = some x) {g c : Nat} (hV : V = .slice (some ⟨g, 0, none⟩) Q.length c) :
    ∃ a, gs[k]? = some a ∧ W.cell? ⟨g, k, none⟩ = some (.pointer (some ⟨a, 0, none⟩)) ∧ ArP (fun b => base ≤ b) W a nb x := by
  have hkl : k < gs.length := by rw [h.len]; exact (List.getElem?_eq_some_iff.1 hk).1
  have ha := List.getElem?_eq_getElem hkl
  refine ⟨gs[k], ha, ?_, h.ar k _ x ha hk⟩
  have := h.row.cells (g := g) (by rw [hV]; rfl) k (.pointer (some ⟨gs[k], 0, none⟩)) (by simp [ptrs, ha])
  rw [Addr.add_lit] at this
  simpa using this
end
theorem ptr_info : (Try.prog.info? 83).map (fun i => (i.zero, i.size, i.bytes)) = some (some (.pointer none), 1, 8) := by kernel_rfl
/-- The numbers of a pair. -/
def pq (nb : Nat) (x : Wv) : Int × Int := (x.1 / nb, x.1 % nb)

/-- The memory of the walk between two rounds. -/
structure Wqe (D : Nat → Prop) (M : Nat) (W : World) (f nb : Nat) (Q : List Wv) (V : Value) (wr : World) : Prop where
  kc : KCe D M W wr
  fb : PSet wr f Q.length (Q.map (pq nb))
  f0 : W.heap.size ≤ f
  qo : ∃ gs, QoE wr W.heap.size nb Q V gs
  dl : ∀ b, D b → b < W.heap.size
section
variable {D : Nat → Prop} {W wr w1 : World} {M f nb : Nat} {Q : List Wv} {V : Value}
theorem Wqe.keep (h : Wqe D M W f nb Q V wr) (k : KCe D M wr w1) : Wqe D M W f nb Q V w1 := by
  obtain ⟨gs, hq⟩ := h.qo
  exact ⟨h.kc.trans k, h.fb.kce k (fun h1 => by have := h.dl f h1; have := h.f0; omega), h.f0, ⟨gs, hq.kce k h.dl⟩, h.dl⟩
theorem Wqe.below (h : Wqe D M W f nb Q V wr) (k : Below wr.heap.size wr w1) : Wqe D M W f nb Q V w1 := h.keep (KCe.of_below k)
/-- Only one block from base on has turned, a map or a row of pointers: what the consumer sees. -/
theorem KIe.one {M g : Nat} {A B : World} (hk : A.grownBy B (some g)) (hM : M ≤ g) (hg : (∃ es c, A.heap[g]? = some (.map es c)) ∨ ∃ cs fr, A.heap[g]? = some (.cells cs 83 fr)) : KIe M A B := by
  have key : ∀ b, b < A.heap.size → b ≠ g → B.heap[b]? = A.heap[b]? := fun b hb hne => hk.block b hb (by intro e; injection e with e; exact hne e)
  have hgl : g < A.heap.size := by
    rcases hg with ⟨_, _, h⟩ | ⟨_, _, h⟩ <;> exact hlt h
  refine ⟨⟨hk.os, hk.tape, hk.output, hk.size, fun b hb => key b (by omega) (by omega), fun b cs' t' fr' ho h1 => (key b (hlt ho) ?_).trans ho⟩, fun b o ho hc => (key b (hlt ho) ?_).trans ho⟩
  · rintro rfl
    rcases hg with ⟨_, _, h⟩ | ⟨_, _, h⟩
    · rw [h] at ho; injection ho with ho; cases ho
    · rw [h] at ho
      injection ho with ho
      injection ho with _ ho
      exact h1 ho.symm
  · rintro rfl
    rcases hg with ⟨_, _, h⟩ | ⟨_, _, h⟩ <;> (rw [h] at ho; injection ho with ho; subst ho; cases hc)
theorem PSet.isMap {b n : Nat} {S : List (Int × Int)} (h : PSet wr b n S) : ∃ es c, wr.heap[b]? = some (.map es c) := by
  obtain ⟨D, ⟨es, cl, h1, _⟩, _⟩ := h
  exact ⟨es, cl, h1⟩
theorem KCe.kie (h : KCe D M W wr) (k : KIe W.heap.size wr w1) : KCe D M W w1 := ⟨Nat.le_trans h.1 k.ch.size, fun b o hb hm ho hc => (k.ch.low b (hlt ho)).trans (h.2 b o hb hm ho hc)⟩
end
theorem grown_mapE {A B : World} {g b : Nat} (hk : A.grownBy B (some g)) (hb : b < A.heap.size) (hne : b ≠ g) : B.heap[b]? = A.heap[b]? := hk.block b hb (by intro e; injection e with e; exact hne e)
theorem KpE.of_kie {base M : Nat} {A B : World} (k : KIe M A B) : KpE base A B := fun b cs fr _ ho => k.ch.same b cs _ fr ho (by decide)
/-- A pair is marked, and put to the queue. -/
theorem Wqe.more {D : Nat → Prop} {M : Nat} {W wr Wt wp W5 w1 : World} {f nb gq cq ar g5 : Nat} {Q : List Wv} {V V' : Value} {gs : List Nat} {code j k0 : Int} {xw : List Int} (h : Wqe D M W f nb Q V wr) (hqo : QoE wr W.heap.size nb Q V gs) (hp : 0 < Q.length)
    (hbt : Below wr.heap.size wr Wt) (hps : PSet wp f (Q.length + 1) (Q.map (pq nb) ++ [pq nb (code, xw ++ [j])])) (hpg : Wt.grownBy wp (some f)) (hb5 : Below wp.heap.size wp W5)
    (hnew : ArB W5 g5 (code / nb) (code % nb) (some ⟨ar, 0, none⟩) j ((xw.length + 1 : Nat) : Int)) (hg5 : W.heap.size ≤ g5) (hAr : ArP (fun b => W.heap.size ≤ b) wr ar nb (k0, xw)) (hV : V = .slice (some ⟨gq, 0, none⟩) Q.length cq)
    (hg1 : W5.grownBy w1 (some gq)) (hown1 : w1.ownsRow W.heap.size 83 1 V' (Q.length + 1) (ptrs gs ++ [.pointer (some ⟨g5, 0, none⟩)])) :
    Wqe D M W f nb (Q ++ [(code, xw ++ [j])]) V' w1 ∧ KIe W.heap.size wr w1 ∧ ArP (fun b => W.heap.size ≤ b) w1 ar nb (k0, xw) := by
  obtain ⟨gq2, c2, cur, hV2, hbq, hgq, _⟩ := hqo.form hp
  rw [hV] at hV2
  injection hV2 with e1 _ _
  injection e1 with e1
  injection e1 with e1 _ _
  subst e1
  have hfl := h.fb.lt
  have hql := hlt hgq
  have hne : f ≠ gq := by
    rintro rfl
    obtain ⟨es, c, hm⟩ := h.fb.isMap
    rw [hm] at hgq
    injection hgq with hgq
    cases hgq
  have hsz := h.kc.1
  have hs1 := hbt.size
  have hs2 := hpg.size
  have hs3 := hb5.size
  obtain ⟨es, c, hm⟩ := (h.fb.below hbt).isMap
  have k1 : KIe W.heap.size wr Wt := KIe.of_below hbt hsz
  have k2 : KIe W.heap.size Wt wp := KIe.one hpg h.f0 (Or.inl ⟨es, c, hm⟩)
  have k3 : KIe W.heap.size wp W5 := KIe.of_below hb5 (by omega)
  have q1 : Wt.heap[gq]? = some (.cells cur 83 (0, 0)) := (hbt.block _ hql).trans hgq
  have q2 : wp.heap[gq]? = some (.cells cur 83 (0, 0)) := (grown_mapE hpg (hlt q1) (Ne.symm hne)).trans q1
  have q3 : W5.heap[gq]? = some (.cells cur 83 (0, 0)) := (hb5.block _ (hlt q2)).trans q2
  have k4 : KIe W.heap.size W5 w1 := KIe.one hg1 hbq (Or.inr ⟨cur, _, q3⟩)
  have kk := ((k1.trans k2).trans k3).trans k4
  have hA1 : ArP (fun b => W.heap.size ≤ b) w1 ar nb (k0, xw) := hAr.kpE (KpE.of_kie kk)
  refine ⟨⟨h.kc.kie kk, ?_, h.f0, ⟨gs ++ [g5], ?_, ?_, ?_⟩, h.dl⟩, kk, hA1⟩
  · rw [List.length_append, List.map_append]
    refine hps.block ?_
    rw [grown_mapE hg1 (by omega) hne, hb5.block _ (by omega)]
  · simp [hqo.len]
  · rw [List.length_append]
    simpa [ptrs] using hown1
  · intro i g x hi hx
    rcases Nat.lt_or_ge i gs.length with hl | hl
    · rw [List.getElem?_append_left hl] at hi
      rw [List.getElem?_append_left (by rw [← hqo.len]; exact hl)] at hx
      exact (hqo.ar i g x hi hx).kpE (KpE.of_kie kk)
    · have hi2 := (List.getElem?_eq_some_iff.1 hi).1
      have hin : i = gs.length := by simp at hi2; omega
      subst hin
      rw [List.getElem?_append_right (Nat.le_refl _), Nat.sub_self] at hi
      rw [hqo.len, List.getElem?_append_right (Nat.le_refl _), Nat.sub_self] at hx
      simp at hi hx
      subst hi hx
      exact hA1.more hg5 (k4.ch.same _ _ _ _ hnew (by decide))
/-- Whether a pair has been found. -/
theorem pq_iff {Q : List Wv} {u v nb : Nat} (hv : v < nb) (hQ : ∀ e ∈ Q, 0 ≤ e.1) : (((u : Int), (v : Int)) ∈ Q.map (pq nb)) ↔ (Q.lookup ((u * nb + v : Nat) : Int)).isSome = true := by
  constructor
  · intro h
    obtain ⟨e, he, h1⟩ := List.mem_map.1 h
    obtain ⟨k, hk⟩ := Int.eq_ofNat_of_zero_le (hQ e he)
    unfold pq at h1
    rw [Prod.mk.injEq, hk, ← Int.natCast_ediv, ← Int.natCast_emod] at h1
    have h2 := Nat.div_add_mod k nb
    have h3 : k / nb = u := by omega
    have h4 : k % nb = v := by omega
    rw [h3, h4, Nat.mul_comm] at h2
    cases hl : Q.lookup ((u * nb + v : Nat) : Int) with
    | some w => rfl
    | none => exact absurd (hk.trans (by rw [h2])) (Mc.look_none hl e he)
  · intro h
    obtain ⟨w, hw⟩ := Option.isSome_iff_exists.1 h
    refine List.mem_map.2 ⟨_, Mc.look_some hw, ?_⟩
    unfold pq
    rw [← Int.natCast_ediv, ← Int.natCast_emod, Mc.cd_div hv, Mc.cd_mod hv]
end Go.Proofs.Ytgafpmgdpigliaa
