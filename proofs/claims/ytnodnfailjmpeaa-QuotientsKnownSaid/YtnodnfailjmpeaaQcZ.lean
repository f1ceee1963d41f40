/-
  Several texts in one: QcA, QcF, QcB. No statement is proved here.
-/
import Derived.Test.YtnodnfailjmpeaaSMdZ
import Derived.Test.YtnodnfailjmpeaaScA
namespace Go.Proofs.Ytnodnfailjmpeaa
open Go.RowKit
open Mc (Ed Ma Pe)
attribute [local go_sem] Oper.semAt_some

theorem defined_any (x y : Int) (w : World) : Calls Try.prog 99 #[.agg #[.int .i64 x, .int .i64 y]] w fun e w' => e = .returned (.bool (!decide (x = -1))) ∧ Below w.heap.size w w' := by
  go_enter Try.func99, Try.ntmps99
  by_cases h : x = -1
  · subst h
    go_wp2
    go_returns
    exact ⟨by simp, (Below.refl _ _).alloc (Nat.le_refl _) _⟩
  · have h1 : (x == -1) = false := by rw [beq_eq_false_iff_ne]; exact h
    go_wp2
    go_returns
    exact ⟨by simp [h], (Below.refl _ _).alloc (Nat.le_refl _) _⟩

set_option maxRecDepth 100000 in
set_option maxHeartbeats 4000000 in
theorem pcomplete_any (i o : Int) (rs : List (List Ed)) (A : Option Addr) (n c : Nat) (w : World) (hr : RdR w A rs) (hn : rs.length = n) (hnb : n ≤ 1000000) (hrl : ∀ row ∈ rs, row.length ≤ 1000000) :
    Calls Try.prog 79 #[.agg #[.int .i64 i, .int .i64 o, .slice A n c]] w fun e w' => e = .returned (.tuple #[.bool (Mc.cmpV ⟨i, o, rs⟩), .int .i64 (Mc.chk ⟨i, o, rs⟩)]) ∧ Below w.heap.size w w' := by
  subst hn
  have RL := Lib.hid hrl
  clear hrl
  obtain ⟨W1, hW1⟩ : ∃ W1, ((w.alloc (.cells #[.int .i64 i, .int .i64 o, .slice A rs.length c] 24)).alloc (.cells #[.bool false] 4)).alloc (.cells #[.int .i64 0] 29) = W1 := ⟨_, rfl⟩
  have hF0 : Fr2 w w.heap.size (w.heap.size + 1) (w.heap.size + 1 + 1) i o A rs.length c (.bool false) (.int .i64 0) W1 := by
    rw [← hW1]
    exact ⟨⟨(((Below.refl _ _).alloc (Nat.le_refl _) _).alloc (by simp) _).alloc (by simp; omega) _, ((BxM.new w i o A rs.length c).mvB ((Below.refl _ _).alloc (Nat.le_refl _) _)).mvB ((Below.refl _ _).alloc (Nat.le_refl _) _), (Box.new_ (by simp) _ _).alloc _, Nat.le_refl _, by omega, by omega⟩, Box.new_ (by simp) _ _, by omega, by omega, by omega⟩
  obtain ⟨m, _⟩ : ∃ m : Nat, True := ⟨3, trivial⟩
  refine (callsIn_wide (n := m)).1 ?_
  refine callsIn_of_wp_marks Try.func79 rfl trivial ?_
  simp only [Try.ntmps79, List.size_toArray, List.length_cons, List.length_nil, Nat.reduceAdd, Nat.reduceSub, Array.replicate_succ, Array.replicate_zero, List.push_toArray, List.append_toArray, List.nil_append, List.cons_append]
  obtain ⟨q0, q1, q2⟩ := hF0.fr.bm.cells
  gi_wp2_with fail
  refine wide_calls (pcheck_any i o rs A rs.length c W1 (hr.below hF0.fr.bel) rfl hnb RL.out) ?_
  rintro e w1 ⟨rfl, hb1⟩
  have hF := hF0.below hb1
  clear hF0 hb1 hW1 q0 q1 q2
  obtain ⟨q0, q1, q2⟩ := hF.fr.bm.cells
  have qc := hF.fr.br.1
  have qf := hF.fr.br.2
  have sc := hF.bs.1
  have sf := hF.bs.2
  have n12 : w.heap.size + 1 ≠ w.heap.size + 1 + 1 := by omega
  by_cases hz : Mc.chk ⟨i, o, rs⟩ = 0
  · have V := Mc.val_of hz
    have HV := Lib.hid (Mc.cmp_all V)
    have HE := Lib.hid (fun k p h => Mc.pl_ed (m := ⟨i, o, rs⟩) V (k := k) (p := p) h)
    clear V
    rw [hz]
    gi_wp2_with fail
    refine wide_calls (edges_any _ _ _ _ _ _) ?_
    rintro e w2 ⟨rfl, rfl⟩
    gi_wp2_with fail
    have hbx : Below w1.heap.size w1 (boxM w1 i o A rs.length c) := (Below.refl _ _).alloc (Nat.le_refl _) _
    have hz1 : w.heap.size + 3 ≤ w1.heap.size := by have := hF.bs.lt; omega
    have hG := edges1_gives (m - 1) w1.heap.size i o A rs.length c rs (fun b => b = w.heap.size + 1 ∨ b = w.heap.size + 1 + 1) w (boxM w1 i o A rs.length c) hr rfl (below_next hF.fr.bel hbx) (BxM.new w1 i o A rs.length c) (by show ¬ (_ ∨ _); omega) (fun b h => by rcases h with h | h <;> omega) hnb RL.out
    have hF1 := hF.below hbx
    have hs1 : w.heap.size + 4 ≤ (boxM w1 i o A rs.length c).heap.size := by simp; omega
    clear q0 q1 q2 qc qf sc sf
    refine range_list (m := m) 122 _ rfl (enters_of Try.func122 (by kernel_rfl) rfl) ((Mc.pl 0 rs).map ev) (fun b => b = w.heap.size + 1 ∨ b = w.heap.size + 1 + 1) (fun b h => by rcases h with h | h <;> omega) ?hps hG
      (fun k W => Fr2 w w.heap.size (w.heap.size + 1) (w.heap.size + 1 + 1) i o A rs.length c (.bool false) (.int .i64 0) W ∧ Hid (Mc.Alld (Mc.pl 0 rs) k))
      (fun c' W => c' = .ret ∧ Fr2 w w.heap.size (w.heap.size + 1) (w.heap.size + 1 + 1) i o A rs.length c (.bool false) (.int .i64 0) W ∧ Hid (Mc.cmpV ⟨i, o, rs⟩ = false))
      (fun k A B h c => ⟨h.1.cells c (by omega), h.2⟩) (fun c' A B h c => ⟨h.1, h.2.1.cells c (by omega), h.2.2⟩) ⟨hF1, by simp [Hid, Mc.Alld]⟩ ?round ?done ?stop
    case hps => intro v hv; obtain ⟨p, _, rfl⟩ := List.mem_map.1 hv; rfl
    case round =>
      intro l k v W hk hW ⟨hI, hA⟩
      rw [List.getElem?_map, Option.map_eq_some_iff] at hk
      obtain ⟨⟨s, j, x, y⟩, hp, rfl⟩ := hk
      have HP := Lib.hid hp
      have hxx := HE.out _ _ hp
      clear hp
      simp only [ev]
      gi_wp2_with fail
      refine ⟨(Below.refl _ _).alloc (Nat.le_refl _) _, fun W2 hc2 => ?_⟩
      obtain ⟨p0, p1, _, _⟩ := ((BxE.new W x y).mvC hc2).cells
      have hI2 := (hI.below ((Below.refl _ _).alloc (Nat.le_refl _) (.cells #[.int .i64 x, .int .i64 y] 26))).cells hc2 (by omega)
      clear hc2 hI hW
      gi_wp2_with fail
      refine round_calls (l := l) (defined_any _ _ _) ?_
      rintro e w3 ⟨rfl, hb3⟩
      have hI3 := hI2.below hb3
      have qc := hI3.fr.br.1
      have qf := hI3.fr.br.2
      have sc := hI3.bs.1
      have sf := hI3.bs.2
      by_cases hx : x = -1
      · have R : roundP (fun b => b = w.heap.size + 1 ∨ b = w.heap.size + 1 + 1) (fun k W => Fr2 w w.heap.size (w.heap.size + 1) (w.heap.size + 1 + 1) i o A rs.length c (.bool false) (.int .i64 0) W ∧ Hid (Mc.Alld (Mc.pl 0 rs) k)) (fun c' W => c' = .ret ∧ Fr2 w w.heap.size (w.heap.size + 1) (w.heap.size + 1 + 1) i o A rs.length c (.bool false) (.int .i64 0) W ∧ Hid (Mc.cmpV ⟨i, o, rs⟩ = false)) k W2 .ret ⟨#[], []⟩ ((w3.setCell ⟨w.heap.size + 1, 0, none⟩ (.bool false)).setCell ⟨w.heap.size + 1 + 1, 0, none⟩ (.int .i64 0)) :=
          ⟨⟨rfl, (hI3.put _).put2 _, by show _ = _; rw [HV.out]; exact Mc.all_hit HP.out (by simp [hx])⟩, ((KA.of_below hb3).trans (KA.set (D := (fun b => b = w.heap.size + 1 ∨ b = w.heap.size + 1 + 1)) _ (.inl rfl) _)).trans (KA.set (D := (fun b => b = w.heap.size + 1 ∨ b = w.heap.size + 1 + 1)) _ (.inr rfl) _)⟩
        have RH := Lib.hid R
        clear R
        have hxd : decide (x = -1) = true := decide_eq_true hx
        gi_wp2_with fail
        exact RH.out
      · have R : roundP (fun b => b = w.heap.size + 1 ∨ b = w.heap.size + 1 + 1) (fun k W => Fr2 w w.heap.size (w.heap.size + 1) (w.heap.size + 1 + 1) i o A rs.length c (.bool false) (.int .i64 0) W ∧ Hid (Mc.Alld (Mc.pl 0 rs) k)) (fun c' W => c' = .ret ∧ Fr2 w w.heap.size (w.heap.size + 1) (w.heap.size + 1 + 1) i o A rs.length c (.bool false) (.int .i64 0) W ∧ Hid (Mc.cmpV ⟨i, o, rs⟩ = false)) k W2 .normal ⟨#[], []⟩ w3 :=
          ⟨⟨hI3, Mc.all_snoc HP.out hA.out (by have := hxx.resolve_left hx; simpa using this)⟩, KA.of_below hb3⟩
        have RH := Lib.hid R
        clear R
        have hxd : decide (x = -1) = false := decide_eq_false hx
        gi_wp2_with fail
        exact RH.out
    case done =>
      intro N W hN ⟨hI, hA⟩ hd
      have hf : Hid (Mc.cmpV ⟨i, o, rs⟩ = true) := by
        show _ = _
        have := hA.out
        unfold Mc.Alld at this
        rw [List.length_map, List.take_length] at this
        rw [HV.out]; exact this
      have qc := hI.fr.br.1
      have qf := hI.fr.br.2
      have sc := hI.bs.1
      have sf := hI.bs.2
      have hI2 := (hI.put (.bool true)).put2 (.int .i64 0)
      have hd2 := far_deferred (far_deferred hd hI.fr.br (.bool true)) (hI.put (.bool true)).bs (.int .i64 0)
      have hI3 := hI2.shut hd2 (by omega)
      simp only [marked]
      gi_wp2_with fail
      refine ⟨by simp, .inl ⟨_, _, rfl, run_takeDeferred hd2, ?_⟩⟩
      refine ⟨.tuple #[.bool true, .int .i64 0], ?_, by rw [hf.out, hz], hI3.fr.bel⟩
      simp [results, Try.f79, go_sem, hI3.fr.br.1, hI3.bs.1]
    case stop =>
      rintro N c' W hN ⟨rfl, hI, hf⟩ hd
      have hI3 := hI.shut hd (by omega)
      simp only [marked]
      gi_wp2_with fail
      refine ⟨by simp, .inl ⟨_, _, rfl, run_takeDeferred hd, ?_⟩⟩
      refine ⟨.tuple #[.bool false, .int .i64 0], ?_, by rw [hf.out, hz], hI3.fr.bel⟩
      simp [results, Try.f79, go_sem, hI3.fr.br.1, hI3.bs.1]
  · have hzb : (Mc.chk ⟨i, o, rs⟩ == 0) = false := by rw [beq_eq_false_iff_ne]; exact hz
    have hv : Hid (Mc.cmpV ⟨i, o, rs⟩ = false) := by show _ = _; unfold Mc.cmpV; rw [if_neg hz]
    obtain ⟨z, hzz⟩ : ∃ z, Mc.chk ⟨i, o, rs⟩ = z := ⟨_, rfl⟩
    rw [hzz] at hz hzb ⊢
    have HZ := Lib.hid hzz
    clear hzz
    gi_wp2_with fail
    have hI3 := (hF.put (.bool false)).put2 (.int .i64 z)
    refine ⟨.tuple #[.bool false, .int .i64 z], ?_, by rw [hv.out, HZ.out], hI3.fr.bel⟩
    simp [results, Try.f79, go_sem, hI3.fr.br.1, hI3.bs.1]
end Go.Proofs.Ytnodnfailjmpeaa

namespace Go.Proofs.Ytnodnfailjmpeaa.Mc

theorem Rch.trans {m : Ma} {a b c : Nat} (h : Rch m a b) (k : Rch m b c) : Rch m a c := by
  induction k with
  | here => exact h
  | step _ hs hi hx ih => exact .step ih hs hi hx
/-- What a search from s adds to what is marked. -/
structure Srch (m : Ma) (s : Nat) (B B' : List Bool) : Prop where
  len : B'.length = B.length
  sub : ∀ k, T B k → T B' k
  has : T B' s
  snd : ∀ k, T B' k → T B k ∨ Rch m s k
  cls : ∀ k t, T B' k → ¬ T B k → Edge m k t → T B' t
theorem Srch.refl {m : Ma} {s : Nat} {B : List Bool} (h : T B s) : Srch m s B B := ⟨rfl, fun _ h => h, h, fun _ h => .inl h, fun _ _ h h' => absurd h h'⟩
theorem T_set' {B : List Bool} {t k : Nat} (h : T B k) : T (B.set t true) k := by
  unfold T at *
  rw [List.getElem?_set]
  split
  · rename_i e; subst e
    rw [if_pos (List.getElem?_eq_some_iff.1 h).1]
  · exact h
theorem T_new' {B : List Bool} {t : Nat} (h : t < B.length) : T (B.set t true) t := by
  unfold T; rw [List.getElem?_set]; simp [h]
theorem T_old' {B : List Bool} {t k : Nat} (h : T (B.set t true) k) : k = t ∨ T B k := by
  unfold T at *
  rw [List.getElem?_set] at h
  split at h
  · rename_i e; exact .inl e.symm
  · exact .inr h
theorem count_set : ∀ {B : List Bool} {s : Nat}, B[s]? = some false → (B.set s true).count true = B.count true + 1
  | [], s, h => by simp at h
  | a :: B, 0, h => by simp at h; subst h; simp
  | a :: B, s + 1, h => by
    have := count_set (B := B) (s := s) (by simpa using h)
    simp only [List.set_cons_succ, List.count_cons, this]
    omega
/-- In the middle of the row of s. -/
structure Smid (m : Ma) (s : Nat) (row : List Ed) (B B' : List Bool) (j : Nat) : Prop where
  len : B'.length = B.length
  sub : ∀ k, T B k → T B' k
  has : T B' s
  snd : ∀ k, T B' k → T B k ∨ Rch m s k
  cls : ∀ k t, T B' k → ¬ T B k → k ≠ s → Edge m k t → T B' t
  row : ∀ i x, i < j → row[i]? = some x → 0 ≤ x.1 → T B' x.1.toNat
section
variable {m : Ma} {s j : Nat} {row : List Ed} {B C B' : List Bool}
theorem Smid.start (h : s < B.length) : Smid m s row B (B.set s true) 0 := by
  refine ⟨by simp, fun k hk => T_set' hk, T_new' h, fun k hk => ?_, fun k t hk hn hs _ => ?_, fun i x hi => by omega⟩
  · rcases T_old' hk with rfl | h1
    · exact .inr .here
    · exact .inl h1
  · rcases T_old' hk with h1 | h1
    · exact absurd h1 hs
    · exact absurd h1 hn
theorem Smid.skip (h : Smid m s row B C j) {x : Ed} (hx : row[j]? = some x) (hn : ¬ 0 ≤ x.1) : Smid m s row B C (j + 1) := by
  refine ⟨h.len, h.sub, h.has, h.snd, h.cls, fun i y hi hy h0 => ?_⟩
  rcases Nat.lt_succ_iff_lt_or_eq.1 hi with h1 | rfl
  · exact h.row i y h1 hy h0
  · rw [hx] at hy; injection hy with hy; subst hy; exact absurd h0 hn
theorem Smid.put (h : Smid m s row B C j) (hr : m.r[s]? = some row) {x : Ed} (hx : row[j]? = some x) (h0 : 0 ≤ x.1) (k : Srch m x.1.toNat C B') : Smid m s row B B' (j + 1) := by
  have he : Rch m s x.1.toNat := .step .here hr hx h0
  refine ⟨k.len.trans h.len, fun a ha => k.sub a (h.sub a ha), k.sub s h.has, fun a ha => ?_, fun a t ha hn hs e => ?_, fun i y hi hy h1 => ?_⟩
  · rcases k.snd a ha with h1 | h1
    · exact h.snd a h1
    · exact .inr (he.trans h1)
  · by_cases hc : T C a
    · exact k.sub t (h.cls a t hc hn hs e)
    · exact k.cls a t ha hc e
  · rcases Nat.lt_succ_iff_lt_or_eq.1 hi with h2 | rfl
    · exact k.sub _ (h.row i y h2 hy h1)
    · rw [hx] at hy; injection hy with hy; subst hy; exact k.has
theorem Smid.done (h : Smid m s row B C j) (hr : m.r[s]? = some row) (hj : row.length ≤ j) : Srch m s B C := by
  refine ⟨h.len, h.sub, h.has, h.snd, fun k t hk hn e => ?_⟩
  by_cases hs : k = s
  · subst hs
    obtain ⟨row', i, x, h1, h2, h3, rfl⟩ := e
    rw [hr] at h1
    injection h1 with h1
    subst h1
    exact h.row i x (by have := (List.getElem?_eq_some_iff.1 h2).1; omega) h2 h3
  · exact h.cls k t hk hn hs e
end
theorem conn_cnt {m : Ma} (v : Val m) {B : List Bool} (h : Srch m 0 (List.replicate 64 false) B) : conn m = decide (B.count true = m.r.length) := by
  have hr0 := v.r0; have hr1 := v.r1
  have hl : B.length = 64 := by rw [h.len]; simp
  have hno : ∀ k, ¬ T (List.replicate 64 false) k := fun k hk => by
    have := List.eq_of_mem_replicate (List.mem_of_getElem? hk)
    cases this
  have hT : ∀ s, T B s ↔ Rch m 0 s := fun s => by
    constructor
    · intro hs; exact (h.snd s hs).resolve_left (hno s)
    · intro hs
      induction hs with
      | here => exact h.has
      | step _ hs hi hx ih => exact h.cls _ _ ih (hno _) ⟨_, _, _, hs, hi, hx, rfl⟩
  have hlt : ∀ s, T B s → s < m.r.length := fun s hs => Rch.lt v ((hT s).1 hs) (by omega)
  have hl2 : (B.take m.r.length).length = m.r.length := by rw [List.length_take]; omega
  have hT2 : ∀ s, T (B.take m.r.length) s ↔ Rch m 0 s := fun s => by
    rw [← hT s]
    unfold T
    rw [List.getElem?_take]
    constructor
    · intro h1; split at h1
      · exact h1
      · cases h1
    · intro h1; rw [if_pos (hlt s h1)]; exact h1
  rw [conn_all hl2 hT2]
  have hd : (B.drop m.r.length).count true = 0 := by
    rw [List.count_eq_zero]
    intro hm
    obtain ⟨k, hk⟩ := List.getElem?_of_mem hm
    rw [List.getElem?_drop] at hk
    have := hlt _ hk
    omega
  have hc : B.count true = (B.take m.r.length).count true := by
    conv => lhs; rw [← List.take_append_drop m.r.length B, List.count_append, hd]
    omega
  rw [hc, Bool.eq_iff_iff, decide_eq_true_iff]
  conv => rhs; rhs; rw [← hl2]
  rw [List.count_eq_length, List.all_eq_true]
  constructor
  · intro h1 b hb; have := h1 b hb; simpa using this.symm
  · intro h1 b hb; have := h1 b hb; simpa using this.symm
end Go.Proofs.Ytnodnfailjmpeaa.Mc

namespace Go.Proofs.Ytnodnfailjmpeaa
open Go.RowKit
open Mc (Ed Ma Pe)

/-- Block g is known whole: an array of bools. -/
def BlkB64 (w : World) (g : Nat) (cs : List Bool) : Prop := w.heap[g]? = some (.cells (cs.map Value.bool).toArray 149 (0, 0))
theorem BlkB64.at_ {w : World} {g : Nat} {cs : List Bool} (h : BlkB64 w g cs) {k : Nat} {b : Bool} (hk : cs[k]? = some b) : w.cell? ⟨g, k, none⟩ = some (.bool b) ∧ w.frozen? ⟨g, k, none⟩ = false := by
  constructor
  · rw [cell_of_row w g k _ 149 (0, 0) h]
    simp [hk]
  · unfold BlkB64 at h
    simp [World.frozen?, h]
theorem BlkB64.set_ {w : World} {g : Nat} {cs : List Bool} (h : BlkB64 w g cs) (k : Nat) (v : Bool) : BlkB64 (w.setCell ⟨g, k, none⟩ (.bool v)) g (cs.set k v) := by
  unfold BlkB64 at h ⊢
  simp [World.setCell, Array.getElem?_modify, h, List.map_set]
theorem BlkB64.far {w : World} {g b off : Nat} {cs : List Bool} (h : BlkB64 w g cs) (hne : g ≠ b) (u : Value) : BlkB64 (w.setCell ⟨b, off, none⟩ u) g cs := (Below.heap_setCell w ⟨b, off, none⟩ u g hne).trans h

/-- The memory of a search: the machine, what is marked, how many are, and the function itself. -/
structure Cn (w : World) (g r c q : Nat) (i o : Int) (A : Option Addr) (n d : Nat) (B : List Bool) (W : World) : Prop where
  bel : Below w.heap.size w W
  bm : BxM W g i o A n d
  rb : BlkB64 W r B
  bc : Box W c (.int .i64 (B.count true))
  bf : Box W q (.func (.func 100) #[] #[.pointer (some ⟨r, 0, none⟩), .pointer (some ⟨c, 0, none⟩), .pointer (some ⟨g, 0, none⟩), .pointer (some ⟨q, 0, none⟩)])
  r0 : w.heap.size ≤ r
  c0 : w.heap.size ≤ c
  ne : g ≠ r ∧ g ≠ c ∧ r ≠ c ∧ q ≠ r ∧ q ≠ c
theorem Cn.below {w : World} {g r c q : Nat} {i o : Int} {A : Option Addr} {n d : Nat} {B : List Bool} {W W' : World} (h : Cn w g r c q i o A n d B W) (k : Below W.heap.size W W') : Cn w g r c q i o A n d B W' :=
  ⟨below_next h.bel k, h.bm.mvB k, (k.block _ (hlt h.rb)).trans h.rb, h.bc.below k, h.bf.below k, h.r0, h.c0, h.ne⟩
/-- A state is marked, and counted. -/
theorem Cn.mark {w : World} {g r c q : Nat} {i o : Int} {A : Option Addr} {n d s : Nat} {B : List Bool} {W : World} (h : Cn w g r c q i o A n d B W) (hb : B[s]? = some false) :
    Cn w g r c q i o A n d (B.set s true) ((W.setCell ⟨r, s, none⟩ (.bool true)).setCell ⟨c, 0, none⟩ (.int .i64 ((B.count true : Int) + 1))) := by
  obtain ⟨n1, n2, n3, n4, n5⟩ := h.ne
  refine ⟨(h.bel.setCell (p := ⟨r, s, none⟩) h.r0 _).setCell (p := ⟨c, 0, none⟩) h.c0 _, (h.bm.farS n1 _).farS n2 _, (h.rb.set_ s true).far n3 _, ?_, (h.bf.far n4 _).far n5 _, h.r0, h.c0, h.ne⟩
  have := (h.bc.far n3.symm (o := s) (.bool true)).set_ (.int .i64 ((B.count true : Int) + 1))
  rw [Mc.count_set hb]
  simpa using this

set_option maxRecDepth 100000 in
set_option maxHeartbeats 1600000 in
theorem reach_any (m : Ma) (V : Mc.Val m) (g r c q : Nat) (A : Option Addr) (d : Nat) (w : World) (hr : RdR w A m.r) : ∀ (f : Nat) (B : List Bool) (s : Nat) (W : World), B.length = 64 → 64 < f + B.count true → s < m.r.length → Cn w g r c q m.i m.o A m.r.length d B W →
    Calls Try.prog 100 #[.int .i64 s, .pointer (some ⟨r, 0, none⟩), .pointer (some ⟨c, 0, none⟩), .pointer (some ⟨g, 0, none⟩), .pointer (some ⟨q, 0, none⟩)] W fun e W' => (∃ v, e = .returned v) ∧ ∃ B', Mc.Srch m s B B' ∧ Cn w g r c q m.i m.o A m.r.length d B' W' := by
  intro f
  induction f with
  | zero =>
    intro B s W hl hf
    have := List.count_le_length (a := true) (l := B)
    omega
  | succ f ih =>
    intro B s W hl hf hs hC
    have IH := Lib.hid ih
    clear ih
    have hs64 : s < 64 := by have := V.r1; omega
    have hcl := List.count_le_length (a := true) (l := B)
    obtain ⟨b0, hb0⟩ : ∃ b, B[s]? = some b := ⟨_, List.getElem?_eq_getElem (by omega)⟩
    obtain ⟨rc, rf⟩ := hC.rb.at_ hb0
    cases b0 with
    | true =>
      have hres := Lib.hid (Mc.Srch.refl (m := m) hb0)
      have HC := Lib.hid hC
      clear hf hcl V hl hC
      go_enter Try.func100, Try.ntmps100
      go_wp2
      refine bodyPost_ret (results_none rfl _ _ _) rfl ?_
      exact ⟨⟨_, rfl⟩, B, hres.out, HC.out⟩
    | false =>
      obtain ⟨n1, n2, n3, n4, n5⟩ := hC.ne
      obtain ⟨q0, q1, q2⟩ := hC.bm.cells
      have cc := (hC.bc.far (c := r) n3.symm (o := s) (.bool true)).1
      have cf := (hC.bc.far (c := r) n3.symm (o := s) (.bool true)).2
      have hM := hC.mark hb0
      have hcn : (B.count true : Int) ≤ 64 := by omega
      obtain ⟨W1, hW1⟩ : ∃ W1, (W.setCell ⟨r, s, none⟩ (.bool true)).setCell ⟨c, 0, none⟩ (.int .i64 ((B.count true : Int) + 1)) = W1 := ⟨_, rfl⟩
      rw [hW1] at hM
      obtain ⟨b, off, X, dd, qn, row, rfl, hb, hcw, _, _, _, hp, hln, hqr⟩ := hr.at_ hs
      have hc1 := (hM.bel.cell (p := ⟨b, off + s, none⟩) hb).trans hcw
      obtain ⟨p0, p1, p2⟩ := hM.bm.cells
      have hrow := V.len row (List.mem_of_getElem? hqr.out)
      have hqn : (qn : Int) = m.i := by rw [← hln.out]; exact hrow
      have hi16 := V.i1
      have HS := Lib.hid (Mc.Smid.start (m := m) (row := row) (B := B) (s := s) (by omega))
      have HB := Lib.hid hb0
      have HL := Lib.hid hl
      have HF := Lib.hid hf
      have EE := Lib.hid (fun x (hx : x ∈ row) => V.ok row (List.mem_of_getElem? hqr.out) x hx)
      have MM := Lib.hid hM
      clear V hrow hb0 hl hf hcl hC hM
      go_enter Try.func100, Try.ntmps100
      go_wp2
      go_loopw [21] (fun v wr => ∃ (j : Nat) (C : List Bool), j ≤ qn ∧ v = .int .i64 j ∧ Hid (Mc.Smid m s row B C j) ∧ Hid (Cn w g r c q m.i m.o (some ⟨b, off, none⟩) m.r.length d C wr)) (fun v _ => qn - (intOf v).toNat)
      case atStart => exact ⟨0, _, Nat.zero_le _, rfl, HS, MM⟩
      case round =>
        obtain ⟨j, C, hj, rfl, hm, hC⟩ := hrel
        clear hW1 p0 p1 p2 hc1 MM W1 rc rf cc cf q0 q1 q2
        by_cases hjl : j < qn
        · obtain ⟨b2, off2, x, y, rfl, hb2, hx0, hy0, hqe⟩ := hp.at_ (k := j) (by rw [hln.out]; exact hjl)
          have hx := (hC.out.bel.cell (p := ⟨b2, off2 + j * 2, none⟩) hb2).trans hx0
          have hy := (hC.out.bel.cell (p := ⟨b2, off2 + j * 2 + 1, none⟩) hb2).trans hy0
          have hxo := EE.out _ (List.mem_of_getElem? hqe.out)
          simp only at hxo
          have hbA : Below wr.heap.size wr (wr.alloc (.cells #[.int .i64 x, .int .i64 y] 26)) := (Below.refl _ _).alloc (Nat.le_refl _) _
          have hCA := Lib.hid (hC.out.below hbA)
          have PE := Lib.hid (BxE.new wr x y)
          have k0 := PE.out.cells.1
          have k1 := PE.out.cells.2.1
          clear hbA hx0 hy0
          go_wp2_with fail
          refine (defined_any _ _ _).mono ?_
          rintro e w2 ⟨rfl, hb22⟩
          have hC2 := Lib.hid (hCA.out.below hb22)
          have k0' : w2.cell? ⟨wr.heap.size, 0, none⟩ = some (.int .i64 x) := (hb22.cell (p := ⟨wr.heap.size, 0, none⟩) (by simp)).trans k0
          have f0 := hC2.out.bf.1
          clear k0 k1 hx hy hb22 PE
          by_cases hx1 : x = -1
          · have hxd : decide (x = -1) = true := decide_eq_true hx1
            have hgo := Lib.hid (hm.out.skip hqe.out (by simp only; omega))
            clear hxo hx1
            go_wp2
            go_roundw
            case rel => exact ⟨j + 1, C, by omega, by go_num, hgo, hC2⟩
            case measure => simp [intOf]; omega
          · have hxd : decide (x = -1) = false := decide_eq_false hx1
            obtain ⟨x, rfl⟩ := Int.eq_ofNat_of_zero_le (show 0 ≤ x by omega)
            have hxl : x < m.r.length := by omega
            have hcnt : 64 < f + C.count true := by
              have := Mc.count_lt' B C s hm.out.len.symm hm.out.sub HB.out hm.out.has
              have := HF.out
              omega
            have hCl : C.length = 64 := hm.out.len.trans HL.out
            clear hxo hx1
            go_wp2_with fail
            refine (IH.out C x w2 hCl hcnt hxl hC2.out).mono ?_
            rintro e w3 ⟨⟨v, rfl⟩, B', hS, hC3⟩
            have hgo := Lib.hid (hm.out.put hqr.out hqe.out (by simp only; omega) (by simpa using hS))
            have HC3 := Lib.hid hC3
            clear hS hC3 hcnt hCl
            go_wp2
            go_roundw
            case rel => exact ⟨j + 1, B', by omega, by go_num, hgo, HC3⟩
            case measure => simp [intOf]; omega
        · have hd := Lib.hid (hm.out.done hqr.out (by rw [hln.out]; omega))
          go_wp2
          go_end0
          exact ⟨⟨_, rfl⟩, C, hd.out, hC.out⟩

theorem run_store_func {P : Program} {w : World} {a : Addr} {m : Mode} (f : Fn) (xs ys : Array Value) : (store a (.func f xs ys) m).run P w = stored P w a (.func f xs ys) m := run_store P w a _ m rfl
attribute [local go_sem] run_store_func

set_option maxRecDepth 100000 in
set_option maxHeartbeats 1600000 in
theorem pconnected_any (i o : Int) (rs : List (List Ed)) (A : Option Addr) (n c : Nat) (w : World) (hr : RdR w A rs) (hn : rs.length = n) (hnb : n ≤ 1000000) (hrl : ∀ row ∈ rs, row.length ≤ 1000000) :
    Calls Try.prog 81 #[.agg #[.int .i64 i, .int .i64 o, .slice A n c]] w fun e w' => e = .returned (.tuple #[.bool (Mc.conV ⟨i, o, rs⟩), .int .i64 (Mc.chk ⟨i, o, rs⟩)]) ∧ Below w.heap.size w w' := by
  subst hn
  have RL := Lib.hid hrl
  clear hrl
  have hb0 : Below w.heap.size w (boxM w i o A rs.length c) := (Below.refl _ _).alloc (Nat.le_refl _) _
  have hr0 := hr.below hb0
  go_enter Try.func81, Try.ntmps81
  go_wp2_with fail
  refine (pcheck_any i o rs A rs.length c _ hr0 rfl hnb RL.out).mono ?_
  rintro e w1 ⟨rfl, hb1⟩
  have hB1 := below_next hb0 hb1
  have hM1 := (BxM.new w i o A rs.length c).mvB hb1
  have hz0 : w.heap.size < w1.heap.size := heap_lt hM1
  clear hb0 hb1
  by_cases hz : Mc.chk ⟨i, o, rs⟩ = 0
  · have V := Mc.val_of hz
    have hv : Hid (Mc.conV ⟨i, o, rs⟩ = Mc.conn ⟨i, o, rs⟩) := by show _ = _; unfold Mc.conV; rw [if_pos hz]
    rw [hz]
    have hlit : (List.map Value.bool (List.replicate 64 false)).toArray = #[.bool false, .bool false, .bool false, .bool false, .bool false, .bool false, .bool false, .bool false, .bool false, .bool false, .bool false, .bool false, .bool false, .bool false, .bool false, .bool false, .bool false, .bool false, .bool false, .bool false, .bool false, .bool false, .bool false, .bool false, .bool false, .bool false, .bool false, .bool false, .bool false, .bool false, .bool false, .bool false, .bool false, .bool false, .bool false, .bool false, .bool false, .bool false, .bool false, .bool false, .bool false, .bool false, .bool false, .bool false, .bool false, .bool false, .bool false, .bool false, .bool false, .bool false, .bool false, .bool false, .bool false, .bool false, .bool false, .bool false, .bool false, .bool false, .bool false, .bool false, .bool false, .bool false, .bool false, .bool false] := by rfl
    have HL := Lib.hid hlit
    clear hlit
    go_wp2_with fail
    have C := fun W => reach_any ⟨i, o, rs⟩ V w.heap.size w1.heap.size (w1.heap.size + 1) (w1.heap.size + 1 + 1) A c w hr 65 (List.replicate 64 false) 0 W (by rw [List.length_replicate]) (by omega) (by have := V.r0; simp only at this ⊢; omega)
    simp only [Int.cast_ofNat_Int] at C
    refine (C _ ?hC).mono ?_
    case hC =>
      refine ⟨((hB1.alloc (by omega) _).alloc (by simp; omega) _).alloc (by simp; omega) _, ((hM1.mvB ((Below.refl _ _).alloc (Nat.le_refl _) _)).mvB ((Below.refl _ _).alloc (Nat.le_refl _) _)).mvB ((Below.refl _ _).alloc (Nat.le_refl _) _), ?_, ?_, Box.new_ (by simp) _ _, by omega, by omega, by omega⟩
      · unfold BlkB64
        rw [HL.out]
        exact (Below.heap_alloc _ _ _ (by simp only [World.size_alloc]; omega)).trans ((Below.heap_alloc _ _ _ (by simp only [World.size_alloc]; omega)).trans (World.alloc_heap_new w1 _))
      · have hc0 : ((List.replicate 64 false).count true : Int) = 0 := by rfl
        rw [hc0]
        exact (Box.new_ (by simp) _ _).alloc _
    rintro e w3 ⟨⟨v, rfl⟩, B', hS, hC3⟩
    have hcn := Lib.hid (Mc.conn_cnt V hS)
    simp only at hcn
    have hbe := hC3.bel
    have cc := hC3.bc.1
    obtain ⟨q0, q1, q2⟩ := hC3.bm.cells
    obtain ⟨z, hzc⟩ : ∃ z, B'.count true = z := ⟨_, rfl⟩
    rw [hzc] at cc hcn
    clear hS hC3 hzc C V
    have hfin : ((z : Int) == rs.length) = Mc.conn ⟨i, o, rs⟩ := by
      rw [hcn.out]
      rw [Bool.eq_iff_iff, beq_iff_eq, decide_eq_true_iff]; omega
    have HF := Lib.hid hfin
    clear hfin hcn
    go_wp2
    go_returns
    exact ⟨by rw [hv.out, hz, ← HF.out]; rfl, hbe⟩
  · have hzb : (Mc.chk ⟨i, o, rs⟩ == 0) = false := by rw [beq_eq_false_iff_ne]; exact hz
    have hv : Hid (Mc.conV ⟨i, o, rs⟩ = false) := by show _ = _; unfold Mc.conV; rw [if_neg hz]
    obtain ⟨z, hzz⟩ : ∃ z, Mc.chk ⟨i, o, rs⟩ = z := ⟨_, rfl⟩
    rw [hzz] at hz hzb ⊢
    have HZ := Lib.hid hzz
    clear hzz
    go_wp2
    go_returns
    exact ⟨by rw [hv.out, HZ.out]; rfl, hB1⟩
end Go.Proofs.Ytnodnfailjmpeaa
