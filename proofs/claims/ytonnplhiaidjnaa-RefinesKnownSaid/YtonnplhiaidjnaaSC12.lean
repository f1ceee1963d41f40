/-
  Contracts: classes.Meet.
-/
import Derived.Test.YtonnplhiaidjnaaSC8
import Derived.WideKeyPair
import Derived.DeepKeys4
import Derived.BigRegion
namespace Go.Proofs.Ytonnplhiaidjnaa
open Go.RowKit Go.Maps

theorem laidOutK : laidOutB Try.prog = true := by kernel_rfl
theorem rowP : (42 : TypeId) < Try.prog.types.size := of_decide_eq_true (by kernel_rfl)
theorem cellsP : Try.prog.cellsOf 42 = 2 := by kernel_rfl
theorem arrP : WideMaps.ArrKey Try.prog 42 3 2 := ⟨Try.underlying42, by kernel_rfl, by kernel_rfl, cellsP⟩
theorem wideP : (match Try.prog.underlying 42 with | some (.array _ _) | some (.struct _) => true | _ => false) = true := by rw [Try.underlying42]
theorem ktP : Try.prog.keyTypeAt 2 42 = true := by kernel_rfl
set_option maxRecDepth 1000000 in
theorem lawP0 : WideMaps.KeyLaw Try.prog 42 := deep_law_laid laidOutK (m := 2) (by decide) rowP ktP wideP
theorem lawP : Keyed Try.prog 42 := Keyed.of_law lawP0
theorem sizeP : ∃ m, Try.prog.types.size = m + 1 := by
  have h := rowP
  generalize Try.prog.types.size = n at h ⊢
  exact ⟨n - 1, (Nat.sub_add_cancel (Nat.lt_of_le_of_lt (Nat.zero_le _) h)).symm⟩
def klP (x y : Int) : Lit := .string (keyBytes [.int .i64 x, .int .i64 y])
def Sm (x : Int) : Prop := 0 ≤ x ∧ x ≤ 1000
theorem keyP {x y : Int} (hx : Sm x) (hy : Sm y) : keyOf Try.prog 42 (.agg #[.int .i64 x, .int .i64 y]) = some (klP x y) :=
  WideMaps.keyOf_pair arrP Try.underlying3 sizeP (wf_i64 (z := x) (by have := hx.1; omega) (by have := hx.2; omega)) (wf_i64 (z := y) (by have := hy.1; omega) (by have := hy.2; omega))
theorem klP_inj {x y u v : Int} (hx : Sm x) (hy : Sm y) (hu : Sm u) (hv : Sm v) (h : klP x y = klP u v) : x = u ∧ y = v := by
  have e := lawP.inj (keyP hx hy) (h ▸ keyP hu hv)
  injection e with e
  have e1 := congrArg Array.toList e
  simp at e1
  exact e1
/-- The map of Meet after k places, and what stands for them. -/
structure MpM (p q : List Int) (k : Nat) (D : DataW Unit) (cur : List Int) : Prop where
  has : ∀ x y, Sm x → Sm y → (Maps.has D (klP x y) = true ↔ ∃ i, i < k ∧ M.gz p i = x ∧ M.gz q i = y)
  at_ : ∀ i, i < k → ∃ j : Nat, D.atKey (klP (M.gz p i) (M.gz q i)) (.lit (.int .i64 0)) = .lit (.int .i64 j) ∧ j < k ∧ M.gz p j = M.gz p i ∧ M.gz q j = M.gz q i ∧ M.gz cur i = j
def SmL (p q : List Int) : Prop := ∀ i, i < p.length → Sm (M.gz p i) ∧ Sm (M.gz q i)
theorem MpM.start (p q cur : List Int) : MpM p q 0 (.map []) cur :=
  ⟨fun x y _ _ => ⟨fun h => absurd h (by show ¬ (false = true); simp), fun ⟨i, hi, _⟩ => absurd hi (by omega)⟩, fun i hi => absurd hi (by omega)⟩
theorem MpM.old {p q cur : List Int} {k : Nat} {D : DataW Unit} {c : Int} (h : MpM p q k D cur) (hk : k < p.length) (hc : k < cur.length) (hh : Maps.has D (klP (M.gz p k) (M.gz q k)) = true) (hs : SmL p q)
    (hat : D.atKey (klP (M.gz p k) (M.gz q k)) (.lit (.int .i64 0)) = .lit (.int .i64 c)) : MpM p q (k + 1) D (cur.set k c) ∧ 0 ≤ c ∧ c < k := by
  obtain ⟨i0, h1, h2, h3⟩ := (h.has _ _ (hs k hk).1 (hs k hk).2).1 hh
  obtain ⟨j, e, hj, e1, e2, _⟩ := h.at_ i0 h1
  rw [h2, h3, hat] at e
  have ec : c = j := by injection e with e; injection e
  subst ec
  refine ⟨⟨fun x y hx hy => ?_, fun i hi => ?_⟩, by omega, by omega⟩
  · rw [h.has x y hx hy]
    constructor
    · rintro ⟨i, hi, e⟩; exact ⟨i, by omega, e⟩
    · rintro ⟨i, hi, e3, e4⟩
      rcases Nat.lt_or_ge i k with h4 | h4
      · exact ⟨i, h4, e3, e4⟩
      · have : i = k := by omega
        subst this
        exact ⟨i0, h1, by rw [h2, e3], by rw [h3, e4]⟩
  · rw [M.gz_set hc]
    rcases Nat.lt_or_ge i k with h4 | h4
    · obtain ⟨j', a, b, c, d, e⟩ := h.at_ i h4
      exact ⟨j', a, by omega, c, d, by rw [if_neg (by omega)]; exact e⟩
    · have : i = k := by omega
      subst this
      exact ⟨j, hat, by omega, by rw [e1, h2], by rw [e2, h3], by rw [if_pos rfl]⟩
theorem MpM.new {p q cur : List Int} {k : Nat} {D : DataW Unit} (h : MpM p q k D cur) (ht : Tidy D) (hk : k < p.length) (hc : k < cur.length) (hh : Maps.has D (klP (M.gz p k) (M.gz q k)) = false) (hs : SmL p q) :
    MpM p q (k + 1) (D.put (klP (M.gz p k) (M.gz q k)) (.lit (.int .i64 k))) (cur.set k k) := by
  have hno : ∀ i, i < k → ¬ (M.gz p i = M.gz p k ∧ M.gz q i = M.gz q k) := fun i hi e => by
    have := (h.has _ _ (hs k hk).1 (hs k hk).2).2 ⟨i, hi, e⟩
    rw [hh] at this; cases this
  have hkey : WideAt.IsKeyLit (klP (M.gz p k) (M.gz q k)) := lawP.key (keyP (hs k hk).1 (hs k hk).2)
  refine ⟨fun x y hx hy => ?_, fun i hi => ?_⟩
  · by_cases e : x = M.gz p k ∧ y = M.gz q k
    · obtain ⟨rfl, rfl⟩ := e
      rw [has_put_same ht.isMap hkey]
      exact ⟨fun _ => ⟨k, by omega, rfl, rfl⟩, fun _ => rfl⟩
    · rw [has_put_other (fun e1 => e (klP_inj hx hy (hs k hk).1 (hs k hk).2 e1)), h.has x y hx hy]
      constructor
      · rintro ⟨i, hi, e⟩; exact ⟨i, by omega, e⟩
      · rintro ⟨i, hi, e3, e4⟩
        rcases Nat.lt_or_ge i k with h4 | h4
        · exact ⟨i, h4, e3, e4⟩
        · have : i = k := by omega
          subst this
          exact absurd ⟨e3.symm, e4.symm⟩ e
  · rw [M.gz_set hc]
    rcases Nat.lt_or_ge i k with h4 | h4
    · obtain ⟨j', a, b, c, d, e⟩ := h.at_ i h4
      refine ⟨j', ?_, by omega, c, d, by rw [if_neg (by omega)]; exact e⟩
      rw [atKey_put_other fun e1 => hno i h4 (klP_inj (hs i (by omega)).1 (hs i (by omega)).2 (hs k hk).1 (hs k hk).2 e1), a]
    · have : i = k := by omega
      subst this
      exact ⟨i, atKey_put_same ht.isMap hkey _ _, by omega, rfl, rfl, by rw [if_pos rfl]⟩
theorem MpM.got {p q : List Int} {k : Nat} {D : DataW Unit} {c : Int} (ht : Tidy D) (hk : k < p.length) (hs : SmL p q)
    (hat : (D.put (klP (M.gz p k) (M.gz q k)) (.lit (.int .i64 k))).atKey (klP (M.gz p k) (M.gz q k)) (.lit (.int .i64 0)) = .lit (.int .i64 c)) : c = k := by
  rw [atKey_put_same ht.isMap (lawP.key (keyP (hs k hk).1 (hs k hk).2))] at hat
  injection hat with hat
  injection hat with _ hat
  exact hat.symm
theorem MpM.fin {p q cur : List Int} {D : DataW Unit} (h : MpM p q p.length D cur) (ht : M.Two p q) (hl : cur.length = p.length) : M.ofL cur = M.meet p q := by
  refine ht.meet_of hl fun i j hi hj => ?_
  obtain ⟨a, a1, _, a2, a3, a4⟩ := h.at_ i hi
  obtain ⟨b, b1, _, b2, b3, b4⟩ := h.at_ j hj
  rw [a4, b4]
  constructor
  · intro e
    have : a = b := by omega
    subst this
    exact ⟨by rw [← a2, ← b2], by rw [← a3, ← b3]⟩
  · rintro ⟨e1, e2⟩
    rw [e1, e2, b1] at a1
    injection a1 with a1
    injection a1 with _ a1
    exact a1.symm
theorem MpM.vals {p q cur : List Int} {D : DataW Unit} (h : MpM p q p.length D cur) (hl : cur.length = p.length) (hm : p.length ≤ 256) : M.I64 cur := by
  intro z hz
  obtain ⟨i, hi, rfl⟩ := M.mem_gz hz
  obtain ⟨j, _, hj, _, _, e⟩ := h.at_ i (by omega)
  omega
theorem Two.small {p q : List Int} (h : M.Two p q) : SmL p q := fun i hi => by
  have h1 := M.vd_gz h.left hi
  have h2 := M.vd_gz h.right (i := i) (by have := h.same; omega)
  have := h.most
  have := h.same
  exact ⟨⟨h1.1, by omega⟩, ⟨h2.1, by omega⟩⟩

end Go.Proofs.Ytonnplhiaidjnaa
