/-
  Keys of a map: signatures. No statement is proved here.
-/
import Derived.Test.YtnodnfailjmpeaaRa1
import Derived.WideKeyPair
import Derived.DeepKeys4
namespace Go.Proofs.Ytnodnfailjmpeaa
open Go.RowKit Go.Maps
open Mc (Ed Ma)

theorem laidOutK : laidOutB Try.prog = true := by kernel_rfl
theorem rowS : (187 : TypeId) < Try.prog.types.size := of_decide_eq_true (by kernel_rfl)
theorem cellsS : Try.prog.cellsOf 187 = 33 := by kernel_rfl
theorem cellsA : Try.prog.cellsOf 185 = 16 := by kernel_rfl
theorem cellsI : Try.prog.cellsOf 3 = 1 := by kernel_rfl
theorem wideS : (match Try.prog.underlying 187 with | some (.array _ _) | some (.struct _) => true | _ => false) = true := by rw [Try.underlying187]
theorem ktS : Try.prog.keyTypeAt 3 187 = true := by kernel_rfl
theorem ktS' : Try.prog.keyType 187 = true := by kernel_rfl
set_option maxRecDepth 1000000 in
theorem lawS : Keyed Try.prog 187 := Keyed.of_law (deep_law_laid laidOutK (m := 3) (by decide) rowS ktS wideS)
theorem sizeS : ∃ m, Try.prog.types.size = m + 3 := by
  have h := of_decide_eq_true (show decide (3 ≤ Try.prog.types.size) = true by kernel_rfl)
  generalize Try.prog.types.size = n at h ⊢
  exact ⟨n - 3, by omega⟩
theorem mapM_some {α β : Type} (f : α → Option β) (g : α → β) : ∀ l : List α, (∀ x ∈ l, f x = some (g x)) → l.mapM f = some (l.map g)
  | [], _ => rfl
  | a :: l, h => by
    rw [List.mapM_cons, h a (by simp), mapM_some f g l (fun x hx => h x (by simp [hx]))]
    rfl
theorem kl_int (d : Nat) {z : Int} (h : (Lit.int .i64 z).wf = true) : Try.prog.keyLits (d + 1) 3 [.int .i64 z] = some [.int .i64 z] := by
  unfold Program.keyLits
  simp [Try.underlying3, h]
theorem flat_one : ∀ zs : List Int, ((List.range zs.length).map fun i => [Lit.int .i64 (M.gz zs i)]).flatten = zs.map (Lit.int .i64) := fun zs => by
  have : (List.range zs.length).map (fun i => [Lit.int .i64 (M.gz zs i)]) = zs.map fun z => [Lit.int .i64 z] := by
    refine List.ext_getElem (by simp) fun k h1 h2 => ?_
    have hk : k < zs.length := by simpa using h1
    simp [M.gz, hk]
  rw [this]
  clear this
  induction zs with
  | nil => rfl
  | cons a l ih => simp [ih]
theorem kl_arr (d : Nat) (zs : List Int) (hl : zs.length = 16) (hw : ∀ z ∈ zs, (Lit.int .i64 z).wf = true) : Try.prog.keyLits (d + 2) 185 (ints zs) = some (zs.map (Lit.int .i64)) := by
  unfold Program.keyLits
  simp only [Try.underlying185]
  rw [if_pos (by rw [cellsA]; simp [ints, hl]), cellsI, mapM_some _ (fun i => [Lit.int .i64 (M.gz zs i)]) _ (fun i hi => ?_)]
  · have h := flat_one zs
    rw [hl] at h
    simp [h]
  · have hi : i < zs.length := by rw [hl]; simpa using hi
    have e : ((ints zs).drop (i * 1)).take 1 = [.int .i64 (M.gz zs i)] := by
      rw [Nat.mul_one, ints, List.drop_eq_getElem_cons (by simpa using hi)]
      simp [M.gz, hi]
    rw [e]
    exact kl_int d (hw _ (M.gz_mem hi))
theorem keyS (z : Int) (xs ys : List Int) (hx : xs.length = 16) (hy : ys.length = 16) (h0 : (Lit.int .i64 z).wf = true) (h1 : ∀ z ∈ xs, (Lit.int .i64 z).wf = true) (h2 : ∀ z ∈ ys, (Lit.int .i64 z).wf = true) :
    (keyOf Try.prog 187 (.agg (ints (z :: (xs ++ ys))).toArray)).isSome = true := by
  obtain ⟨m, hm⟩ := sizeS
  unfold keyOf
  simp only [Try.underlying187]
  rw [if_pos (by simp [ktS', Value.formed, Try.underlying187, cellsS, ints, hx, hy]), hm]
  unfold Program.keyLits
  simp only [Try.underlying187, Value.cells]
  rw [if_pos ⟨by rw [cellsS]; simp [ints, hx, hy], by simp⟩]
  simp only [List.mapM_cons, List.mapM_nil, cellsI, cellsA]
  have e0 : List.take 1 (List.drop 0 (ints (z :: (xs ++ ys)))) = [.int .i64 z] := by simp [ints]
  have e1 : List.take 16 (List.drop 1 (ints (z :: (xs ++ ys)))) = ints xs := by
    rw [show ints (z :: (xs ++ ys)) = .int .i64 z :: (ints xs ++ ints ys) by simp [ints], List.drop_succ_cons, List.drop_zero, List.take_left' (by simp [ints, hx])]
  have e2 : List.take 16 (List.drop 17 (ints (z :: (xs ++ ys)))) = ints ys := by
    rw [show ints (z :: (xs ++ ys)) = .int .i64 z :: (ints xs ++ ints ys) by simp [ints], List.drop_succ_cons, List.drop_left' (by simp [ints, hx]), List.take_of_length_le (by simp [ints, hy])]
  rw [e0, e1, e2, kl_int (m + 2) h0, kl_arr (m + 1) xs hx h1, kl_arr (m + 1) ys hy h2]
  rfl

/-- The key that stands for the cells of a signature. -/
noncomputable def klS (cs : List Int) : Lit := (keyOf Try.prog 187 (.agg (ints cs).toArray)).getD (.bool false)
set_option maxRecDepth 100000 in
theorem klS_key (cs : List Int) (hl : cs.length = 33) (hw : ∀ z ∈ cs, -1 ≤ z ∧ z ≤ 1000) : keyOf Try.prog 187 (.agg (ints cs).toArray) = some (klS cs) := by
  have hwf : ∀ z ∈ cs, (Lit.int .i64 z).wf = true := fun z hz => wf_i64_7 (by have := (hw z hz).1; omega) (by have := (hw z hz).2; omega)
  have h : (keyOf Try.prog 187 (.agg (ints cs).toArray)).isSome = true := by
    match cs, hl with
    | z :: r, hl =>
      have hr : r.length = 32 := by simpa using hl
      have := keyS z (r.take 16) (r.drop 16) (by simp [hr]) (by simp [hr]) (hwf z (by simp)) (fun y hy => hwf y (by simp [List.mem_of_mem_take hy])) (fun y hy => hwf y (by simp [List.mem_of_mem_drop hy]))
      rwa [List.take_append_drop] at this
  obtain ⟨l, hl⟩ := Option.isSome_iff_exists.1 h
  unfold klS
  rw [hl]
  rfl
set_option maxRecDepth 100000 in
theorem klS_inj {cs ds : List Int} (hc : cs.length = 33) (hcw : ∀ z ∈ cs, -1 ≤ z ∧ z ≤ 1000) (hd : ds.length = 33) (hdw : ∀ z ∈ ds, -1 ≤ z ∧ z ≤ 1000) (h : klS cs = klS ds) : cs = ds := by
  have e := lawS.inj (klS_key cs hc hcw) (h ▸ klS_key ds hd hdw)
  injection e with e
  have e1 := congrArg Array.toList e
  have hinj : ∀ a b : List Int, ints a = ints b → a = b := fun a => by
    induction a with
    | nil => intro b hb; cases b with
      | nil => rfl
      | cons y b => simp [ints] at hb
    | cons x a ih => intro b hb; cases b with
      | nil => simp [ints] at hb
      | cons y b =>
        simp only [ints, List.map_cons, List.cons.injEq, Value.int.injEq, true_and] at hb
        rw [hb.1, ih b hb.2]
  exact hinj _ _ (by simpa using e1)

/-! ### A map from keys to numbers, told by a list -/
structure KOk (K : Int → Lit) (U : List Int) : Prop where
  inj : ∀ x ∈ U, ∀ y ∈ U, K x = K y → x = y
  key : ∀ x ∈ U, WideAt.IsKeyLit (K x)
structure MpK (K : Int → Lit) (U : List Int) (D : DataW Unit) (l : List Int) : Prop where
  has : ∀ z ∈ U, Maps.has D (K z) = decide (z ∈ l)
  at_ : ∀ z, z ∈ l → D.atKey (K z) (.lit (.int .i64 0)) = .lit (.int .i64 (M.nu l z))
  size : Maps.size D = M.cnt l
  sub : ∀ z ∈ l, z ∈ U
section
variable {K : Int → Lit} {U : List Int} {D : DataW Unit} {l : List Int} {z : Int}
theorem MpK.start : MpK K U (.map []) [] := ⟨fun _ _ => rfl, fun z h => (by cases h), rfl, fun z h => (by cases h)⟩
theorem MpK.old (h : MpK K U D l) (hz : z ∈ l) : MpK K U D (l ++ [z]) := by
  refine ⟨fun y hy => ?_, fun y hy => ?_, by rw [h.size, M.cnt_old hz], fun y hy => ?_⟩
  · rw [h.has y hy]
    by_cases e : y = z
    · subst e; simp [hz]
    · simp [e]
  · have : y ∈ l := by
      rcases List.mem_append.1 hy with h1 | h1
      · exact h1
      · rw [List.mem_singleton.1 h1]; exact hz
    rw [h.at_ y this, M.nu_stays this]
  · rcases List.mem_append.1 hy with h1 | h1
    · exact h.sub y h1
    · rw [List.mem_singleton.1 h1]; exact h.sub z hz
theorem MpK.new (h : MpK K U D l) (ok : KOk K U) (ht : Tidy D) (hU : z ∈ U) (hz : ¬ z ∈ l) : MpK K U (D.put (K z) (.lit (.int .i64 (M.cnt l)))) (l ++ [z]) := by
  refine ⟨fun y hy => ?_, fun y hy => ?_, ?_, fun y hy => ?_⟩
  · by_cases e : y = z
    · subst e
      rw [has_put_same ht.isMap (ok.key y hy)]
      simp
    · rw [has_put_other (fun e1 => e (ok.inj y hy z hU e1)), h.has y hy]
      simp [e]
  · by_cases e : y = z
    · subst e
      rw [atKey_put_same ht.isMap (ok.key y hU), M.nu_new hz]
    · have hyl : y ∈ l := by
        rcases List.mem_append.1 hy with h1 | h1
        · exact h1
        · exact absurd (List.mem_singleton.1 h1) e
      rw [atKey_put_other (fun e1 => e (ok.inj y (h.sub y hyl) z hU e1)), h.at_ y hyl, M.nu_stays hyl]
  · have hs : Maps.has D (K z) = false := by rw [h.has z hU]; simp [hz]
    rw [size_put ht, hs, M.cnt_new hz]
    simp [h.size]
  · rcases List.mem_append.1 hy with h1 | h1
    · exact h.sub y h1
    · rw [List.mem_singleton.1 h1]; exact hU
theorem MpK.got {c : Int} (h : MpK K U D l) (hz : z ∈ l) (hat : D.atKey (K z) (.lit (.int .i64 0)) = .lit (.int .i64 c)) : c = M.nu l z := by
  rw [h.at_ z hz] at hat
  injection hat with hat
  injection hat with _ hat
  exact hat.symm
end

/-- The key of a state that stands for others. -/
noncomputable def kst (m : Ma) (p : List Int) (z : Int) : Lit := klS (Mc.sgR m p z.toNat m.i.toNat)
theorem kst_at {m : Ma} (v : Mc.Val m) (p : List Int) {s : Nat} (hs : s < m.r.length) : klS (Mc.sgR m p s m.i.toNat) = kst m p (M.gz (Mc.fs m p) s) := by
  obtain ⟨j, e, hj, h⟩ := Mc.fs_same (p := p) hs
  unfold kst
  have := v.i0
  rw [e, Int.toNat_natCast, (Mc.sgR_iff v p hj hs (by omega)).2 h]
set_option maxRecDepth 100000 in
theorem kst_ok {m : Ma} (v : Mc.Val m) {p : List Int} (hp : ∀ z ∈ p, -1 ≤ z ∧ z ≤ 1000) : KOk (kst m p) (Mc.fs m p) := by
  have h1 := v.i0
  have up : ∀ x ∈ Mc.fs m p, ∃ s, s < m.r.length ∧ kst m p x = klS (Mc.sgR m p s m.i.toNat) ∧ M.gz (Mc.fs m p) s = x := fun x hx => by
    obtain ⟨s, hs, rfl⟩ := M.mem_gz hx
    rw [Mc.fs_len] at hs
    exact ⟨s, hs, (kst_at v p hs).symm, rfl⟩
  constructor
  · intro x hx y hy e
    obtain ⟨s, hs, es, gs⟩ := up x hx
    obtain ⟨t, ht, et, gt⟩ := up y hy
    rw [es, et] at e
    have e2 := klS_inj (Mc.sgR_len _ _ _ _) (Mc.sgR_i64 v hp hs (by omega)) (Mc.sgR_len _ _ _ _) (Mc.sgR_i64 v hp ht (by omega)) e
    rw [← gs, ← gt]
    exact (Mc.fs_iff hs ht).2 ((Mc.sgR_iff v p hs ht (by omega)).1 e2)
  · intro x hx
    obtain ⟨s, hs, es, _⟩ := up x hx
    rw [es]
    exact lawS.key (klS_key _ (Mc.sgR_len _ _ _ _) (Mc.sgR_i64 v hp hs (by omega)))
end Go.Proofs.Ytnodnfailjmpeaa
