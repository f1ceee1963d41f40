/-
  Maps keyed by words: what they hold, told by a function; keys. No statement is proved here.
-/
import Derived.Test.YtjodhihcckcefaaU4
import Derived.Maps.OwnSet
import Derived.Maps.OwnOps
import Derived.Sort.KeysCollected
namespace Go.Proofs.Ytjodhihcckcefaa
open Go.RowKit Go.Maps

theorem lawK : Keyed Try.prog 9 := string_keyed Try.underlying9
theorem zeroB (w : World) : (zeroValue 4).run Try.prog w = .ok (.bool false) w := by kernel_rfl
theorem keyK {x : List Int} (h : x.length ≤ 1000) : keyOf Try.prog 9 (keyV x) = some (.string (M.kU x)) := by
  have : (M.kU x).toArray.size ≤ maxLen := by
    have := M.kU_len x
    unfold maxLen
    simp
    omega
  simp [keyOf, Try.underlying9, mapKey, keyV]
  first
    | exact this
    | (unfold maxLen at *; simpa using this)
theorem plainElem_bool_inv {H : Type} {P : Program} {e : TypeId} (he : P.underlying e = some .bool) {v : Value} {z : DataW H × List MemPlace} (h : plainElem P e v = some z) : ∃ a, v = .bool a ∧ z = (.lit (.bool a), []) := by
  unfold plainElem at h
  rw [he] at h
  cases v <;> simp at h
  exact ⟨_, rfl, h.symm⟩
/-- What a map holds: at a word whether it is there, and its value. -/
abbrev Wf := List Int → Option Bool
structure MpB (D : DataW Unit) (f : Wf) : Prop where
  has : ∀ x, M.By x → Maps.has D (.string (M.kU x)) = (f x).isSome
  at_ : ∀ x, M.By x → D.atKey (.string (M.kU x)) (.lit (.bool false)) = .lit (.bool ((f x).getD false))
  by_ : ∀ x, (f x).isSome = true → M.By x ∧ x.length ≤ 1000
def upd (f : Wf) (x : List Int) (b : Bool) : Wf := fun y => if y = x then some b else f y
theorem MpB.start : MpB (.map []) (fun _ => none) := ⟨fun _ _ => rfl, fun _ _ => rfl, fun _ h => (by cases h)⟩
theorem MpB.put {D : DataW Unit} {f : Wf} (h : MpB D f) (hm : IsMap D) {x : List Int} (hx : M.By x) (hl : x.length ≤ 1000) (b : Bool) : MpB (D.put (.string (M.kU x)) (.lit (.bool b))) (upd f x b) := by
  refine ⟨fun y hy => ?_, fun y hy => ?_, fun y hy => ?_⟩
  · unfold upd
    by_cases e : y = x
    · subst e
      rw [has_put_same hm (show WideAt.IsKeyLit (.string (M.kU y)) from trivial), if_pos rfl]
      rfl
    · rw [has_put_other (fun e1 => e (M.kU_inj hy hx (by injection e1))), if_neg e, h.has y hy]
  · unfold upd
    by_cases e : y = x
    · subst e
      rw [atKey_put_same hm (show WideAt.IsKeyLit (.string (M.kU y)) from trivial), if_pos rfl]
      rfl
    · rw [atKey_put_other (fun e1 => e (M.kU_inj hy hx (by injection e1))), if_neg e, h.at_ y hy]
  · unfold upd at hy
    by_cases e : y = x
    · subst e; exact ⟨hx, hl⟩
    · rw [if_neg e] at hy; exact h.by_ y hy
/-- Block b is a map of at most n words that holds what f tells. -/
def Mp (w : World) (b n : Nat) (f : Wf) : Prop := ∃ D, w.ownsMap Try.prog 9 (plainElem (H := Unit) Try.prog 4) b n D ∧ MpB D f
section
variable {w w' : World} {b n : Nat} {f : Wf}
theorem Mp.make (w : World) : Mp (w.alloc (.map #[] 0)) w.heap.size 0 (fun _ => none) := ⟨_, World.ownsMap_made w _ _ _, MpB.start⟩
theorem Mp.lt (h : Mp w b n f) : b < w.heap.size := by
  obtain ⟨D, h1, _⟩ := h
  exact h1.lt
theorem Mp.kept {row : Option Nat} (h : Mp w b n f) (hg : w.grownBy w' row) (hne : some b ≠ row) : Mp w' b n f := by
  obtain ⟨D, h1, h2⟩ := h
  exact ⟨D, h1.kept hg hne, h2⟩
theorem Mp.mv {B : Nat} (h : Mp w b n f) (hb : Below B w w') (hB : b < B) : Mp w' b n f := by
  obtain ⟨D, ⟨es, cl, h1, h3⟩, h2⟩ := h
  exact ⟨D, ⟨es, cl, (hb.block _ hB).trans h1, h3⟩, h2⟩
theorem Mp.mono (h : Mp w b n f) {m : Nat} (hm : n ≤ m) : Mp w b m f := by
  obtain ⟨D, h1, h2⟩ := h
  exact ⟨D, h1.mono hm, h2⟩
theorem Mp.look (h : Mp w b n f) {x : List Int} (hx : M.By x) (hl : x.length ≤ 1000) : (Instr.lookup 74 (.map (some b)) (keyV x) false).run Try.prog w = .ok (.bool ((f x).getD false)) w := by
  obtain ⟨D, h1, h2⟩ := h
  obtain ⟨v, ps, hr, hv⟩ := h1.lookup lawK Try.underlying74 (zeroB w) (plainElem_bool Try.underlying4 false) (keyK hl)
  rw [h2.at_ x hx] at hv
  obtain ⟨a, rfl, e⟩ := plainElem_bool_inv Try.underlying4 hv
  simp only [Prod.mk.injEq, DataW.lit.injEq, Lit.bool.injEq] at e
  rw [hr, e.1]
theorem Mp.lookOk (h : Mp w b n f) {x : List Int} (hx : M.By x) (hl : x.length ≤ 1000) : (Instr.lookup 74 (.map (some b)) (keyV x) true).run Try.prog w = .ok (.tuple #[.bool ((f x).getD false), .bool (f x).isSome]) w := by
  obtain ⟨D, h1, h2⟩ := h
  obtain ⟨v, ps, hr, hv⟩ := h1.look_ok lawK Try.underlying74 (zeroB w) (plainElem_bool Try.underlying4 false) (keyK hl)
  rw [h2.at_ x hx] at hv
  obtain ⟨a, rfl, e⟩ := plainElem_bool_inv Try.underlying4 hv
  simp only [Prod.mk.injEq, DataW.lit.injEq, Lit.bool.injEq] at e
  rw [hr, e.1, h2.has x hx]
/-- How many words there are. -/
def Sz (f : Wf) (N : Nat) : Prop := ∃ ks : List (List UInt8), ks.Nodup ∧ (∀ s, s ∈ ks ↔ (f (M.uW s)).isSome = true) ∧ ks.length = N
theorem own_keys {D : DataW Unit} (hown : w.ownsMap Try.prog 9 (plainElem (H := Unit) Try.prog 4) b n D) : (strKeys D).Nodup ∧ ∀ x, x ∈ strKeys D ↔ Maps.has D (.string x) = true := by
  obtain ⟨es, hD, hp, _⟩ := hown.entries lawK
  obtain ⟨es', hD', hko⟩ := hown.keysOf
  obtain rfl : es = es' := by rw [hD] at hD'; simpa using hD'
  subst hD
  have hk : ∀ p ∈ es, ∃ x, p.1 = .string x := fun p hp => by
    obtain ⟨v, hv⟩ := hko p hp
    obtain ⟨x, _, hx, _⟩ := Maps.keyOf_str Try.underlying9 hv
    exact ⟨x, hx⟩
  refine ⟨?_, fun x => ?_⟩
  · show (es.map fun p => strOf p.1).Nodup
    refine List.pairwise_map.2 (hp.imp_of_mem fun {p q} hp' hq' hne e => hne ?_)
    obtain ⟨a, ha⟩ := hk p hp'
    obtain ⟨b, hb⟩ := hk q hq'
    rw [ha, hb] at e ⊢
    exact congrArg _ e
  · rw [has_eq, List.any_eq_true]
    show x ∈ es.map (fun p => strOf p.1) ↔ _
    rw [List.mem_map]
    constructor
    · rintro ⟨p, hp', rfl⟩
      obtain ⟨a, ha⟩ := hk p hp'
      exact ⟨p, hp', by rw [ha]; simp [Lit.sameKey, strOf]⟩
    · rintro ⟨p, hp', hs⟩
      obtain ⟨a, ha⟩ := hk p hp'
      rw [ha] at hs
      exact ⟨p, hp', by rw [ha]; simpa [Lit.sameKey, strOf] using hs⟩
theorem own_keys_f {D : DataW Unit} (hown : w.ownsMap Try.prog 9 (plainElem (H := Unit) Try.prog 4) b n D) (hM : MpB D f) : (strKeys D).Nodup ∧ ∀ s, s ∈ strKeys D ↔ (f (M.uW s)).isSome = true := by
  obtain ⟨h1, h2⟩ := own_keys hown
  refine ⟨h1, fun s => ?_⟩
  rw [h2 s, ← hM.has _ (M.uW_by s), M.kU_uW]
theorem size_keys {D : DataW Unit} (hown : w.ownsMap Try.prog 9 (plainElem (H := Unit) Try.prog 4) b n D) : Maps.size D = (strKeys D).length := by
  obtain ⟨es, rfl, _⟩ := hown.keysOf
  simp [Maps.size, strKeys]
theorem Sz.uniq {N N' : Nat} (h : Sz f N) (h' : Sz f N') : N = N' := by
  obtain ⟨k1, a1, a2, rfl⟩ := h
  obtain ⟨k2, b1, b2, rfl⟩ := h'
  exact ((List.perm_ext_iff_of_nodup a1 b1).2 fun s => by rw [a2, b2]).length_eq
theorem Mp.sz (h : Mp w b n f) : ∃ N, Sz f N ∧ N ≤ n := by
  obtain ⟨D, h1, h2⟩ := h
  have h3 := own_keys_f h1 h2
  refine ⟨_, ⟨strKeys D, h3.1, h3.2, rfl⟩, ?_⟩
  rw [← size_keys h1]
  exact h1.size_le
end
/-- len of the map. -/
theorem Mp.len {w : World} {b n : Nat} {f : Wf} (h : Mp w b n f) {N : Nat} (hN : Sz f N) (ty : TypeId) : (Builtin.len_ #[74] ty #[.map (some b)]).run Try.prog w = .ok (.int .i64 N) w := by
  obtain ⟨D, h1, h2⟩ := h
  have h3 := own_keys_f h1 h2
  have e := hN.uniq ⟨strKeys D, h3.1, h3.2, rfl⟩
  rw [h1.len Try.underlying74 ty, size_keys h1, ← e]
theorem wpList_mlen (w : World) {ops : Array Oper} {rest : List Oper} {o : Oper} {a : Act} {Q : Exit → Act → World → Prop} (hg : o.guard = none) (m : Operand) (hop : o.op = Op.call { callee := Callee.builtin Builtin.len, args := #[m], argTypes := #[74] })
    (b n : Nat) (f : Wf) (hm : a.eval m = .map (some b)) (hM : Mp w b n f) (N : Nat) (hN : Sz f N) (hK : wpList Try.prog ops Q rest (a.put o.dst (.int .i64 N)) w) : wpList Try.prog ops Q (o :: rest) a w := by
  refine wpList_plain hg fun K' hK' => ?_
  unfold Oper.wp
  simp [execOp, hop, resolve, invoke, builtin, hm, hM.len hN o.type, Result.andThen]
  exact hK' _ _ hK
theorem wpList_mput (w : World) {ops : Array Oper} {rest : List Oper} {o : Oper} {a : Act} {Q : Exit → Act → World → Prop} (hg : o.guard = none) (m x v : Operand) (hop : o.op = Op.mapUpdate 74 m x v)
    (b n : Nat) (f : Wf) (hm : a.eval m = .map (some b)) (hM : Mp w b n f) (hn : n < maxLen) (y : List Int) (bv : Bool) (hx : a.eval x = keyV y) (hv : a.eval v = .bool bv) (hy : M.By y) (hl : y.length ≤ 1000)
    (hK : ∀ w', Mp w' b (n + 1) (upd f y bv) → w.grownBy w' (some b) → wpList Try.prog ops Q rest (a.put o.dst undef) w') : wpList Try.prog ops Q (o :: rest) a w := by
  obtain ⟨D, h1, h2⟩ := hM
  exact wpList_mapUpdate_own w hg m x v _ hop 9 4 lawK Try.underlying74 _ b n D hm h1 hn _ _ _ hx hv (keyK hl) _ [] (plainElem_bool Try.underlying4 bv) (fun w' h3 h4 => hK w' ⟨_, h3, h2.put (h1.tidy lawK).isMap hy hl bv⟩ h4)
/-! ### keys -/
def inF (l : List (List Int)) : Wf := fun x => if x ∈ l then some true else none
theorem inF_nil : inF [] = fun _ => none := by funext x; simp [inF]
theorem inF_snoc (l : List (List Int)) (x : List Int) : upd (inF l) x true = inF (l ++ [x]) := by
  funext y
  unfold upd inF
  by_cases e : y = x
  · subst e; simp
  · rw [if_neg e]
    simp [e]
theorem take_row {l : List (List Int)} {k : Nat} (h : k < l.length) : l.take (k + 1) = l.take k ++ [M.row l k] := by
  rw [List.take_add_one, M.row_at h]
  rfl
set_option maxRecDepth 100000 in
set_option maxHeartbeats 1000000 in
theorem keys_any (L : Option Addr) (c N : Nat) (rows : List (List Int)) (w : World) (h : RdS w L rows) (hN : rows.length = N) (hm : N ≤ 1000000) (hall : ∀ x ∈ rows, M.By x ∧ x.length ≤ 1000) :
    Calls Try.prog 57 #[.slice L N c] w fun e w' => ∃ b, w.heap.size ≤ b ∧ e = .returned (.map (some b)) ∧ Mp w' b N (inF rows) ∧ Below w.heap.size w w' := by
  have hmm := @run_makeMap Try.prog
  have HN := Lib.hid hN
  have HH := Lib.hid h
  have HA := Lib.hid hall
  clear hN h hall
  have s1 : Hid (Mp (w.alloc (.map #[] 0)) w.heap.size 0 (inF (rows.take 0))) := by rw [List.take_zero, inF_nil]; exact Mp.make w
  have b1 := Lib.hid ((Below.refl w.heap.size w).alloc (Nat.le_refl _) (.map #[] 0))
  go_enter Try.func57, Try.ntmps57
  go_wp2
  go_loopw [9] (fun v wr => ∃ k : Nat, k ≤ N ∧ v = .int .i64 k ∧ Hid (Mp wr w.heap.size k (inF (rows.take k))) ∧ Hid (Below w.heap.size w wr)) (fun v _ => N - (intOf v).toNat)
  case atStart => exact ⟨0, Nat.zero_le _, rfl, s1.out, b1.out⟩
  case round =>
    obtain ⟨k, hk, rfl, hM, hb⟩ := hrel
    by_cases hlt : k < N
    · have hkl : k < rows.length := by rw [HN.out]; exact hlt
      obtain ⟨b, off, A, cc, m, rfl, _, hc, hrd, hml⟩ := (HH.out.below hb.out).at_ hkl
      have hby := HA.out _ (M.row_mem hkl)
      go_wp2_with fail
      refine (key_any _ _ _ _ _ hrd hml.out (by have := hml.out; omega) hby.1).mono ?_
      rintro e w1 ⟨rfl, hb1⟩
      have hM1 := Lib.hid (hM.out.mv hb1 hM.out.lt)
      have HB := Lib.hid (below_next hb.out hb1)
      have HBY := Lib.hid hby
      clear hb hb1 hc hrd hM hby
      go_wp2_with (first
        | (refine wpList_mput _ rfl _ _ _ rfl w.heap.size k (inF (rows.take k)) rfl hM1.out (by unfold maxLen; omega) (M.row rows k) true rfl rfl HBY.out.1 HBY.out.2 ?_; intro w2 hM2 hg2)
        | fail)
      have HM2 : Hid (Mp w2 w.heap.size (k + 1) (inF (rows.take (k + 1)))) := by rw [take_row hkl, ← inF_snoc]; exact hM2
      have HB2 := Lib.hid (HB.out.grown hg2 HB.out.size (fun j hj => by cases hj; exact Nat.le_refl _))
      clear hM2 hg2 HB hM1 HBY
      go_roundw
      case rel => exact ⟨k + 1, by omega, by go_num, HM2, HB2⟩
      case measure => simp [intOf]; omega
    · obtain rfl : k = N := by omega
      have hall : Hid (Mp wr w.heap.size k (inF rows)) := by
        have := hM.out
        rw [List.take_of_length_le (by rw [HN.out]; omega)] at this
        exact this
      clear hM
      go_wp2
      go_ret
      exact ⟨_, Nat.le_refl _, rfl, hall.out, hb.out⟩
end Go.Proofs.Ytjodhihcckcefaa
