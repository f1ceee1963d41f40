/-
  Several texts in one: QcA, QcF, QcB. No statement is proved here.
-/
import Derived.Test.YtgafpmgdpigliaaSMdZ
import Derived.Test.YtgafpmgdpigliaaScA
namespace Go.Proofs.Ytgafpmgdpigliaa
open Go.RowKit
open Mc (Ed Ma Pe)
attribute [local go_sem] Oper.semAt_some

theorem defined_any (x y : Int) (w : World) : Calls Try.prog 88 #[.agg #[.int .i64 x, .int .i64 y]] w fun e w' => e = .returned (.bool (!decide (x = -1))) ∧ Below w.heap.size w w' := by
  go_enter Try.func88, Try.ntmps88
  by_cases h : x = -1
  · subst h
    go_wp2
    go_returns
    exact ⟨by simp, (Below.refl _ _).alloc (Nat.le_refl _) _⟩
  · have h1 : (x == -1) = false := by rw [beq_eq_false_iff_ne]; exact h
    go_wp2
    go_returns
    exact ⟨by simp [h], (Below.refl _ _).alloc (Nat.le_refl _) _⟩

set_option maxRecDepth 100000 in
set_option maxHeartbeats 4000000 in
theorem pcomplete_any (i o : Int) (rs : List (List Ed)) (A : Option Addr) (n c : Nat) (w : World) (hr : RdR w A rs) (hn : rs.length = n) (hnb : n ≤ 1000000) (hrl : ∀ row ∈ rs, row.length ≤ 1000000) :
    Calls Try.prog 66 #[.agg #[.int .i64 i, .int .i64 o, .slice A n c]] w fun e w' => e = .returned (.tuple #[.bool (Mc.cmpV ⟨i, o, rs⟩), .int .i64 (Mc.chk ⟨i, o, rs⟩)]) ∧ Below w.heap.size w w' := by
  subst hn
  have RL := Lib.hid hrl
  clear hrl
  obtain ⟨W1, hW1⟩ : ∃ W1, ((w.alloc (.cells #[.int .i64 i, .int .i64 o, .slice A rs.length c] 24)).alloc (.cells #[.bool false] 4)).alloc (.cells #[.int .i64 0] 31) = W1 := ⟨_, rfl⟩
  have hF0 : Fr2 w w.heap.size (w.heap.size + 1) (w.heap.size + 1 + 1) i o A rs.length c (.bool false) (.int .i64 0) W1 := by
    rw [← hW1]
    exact ⟨⟨(((Below.refl _ _).alloc (Nat.le_refl _) _).alloc (by simp) _).alloc (by simp; omega) _, ((BxM.new w i o A rs.length c).mvB ((Below.refl _ _).alloc (Nat.le_refl _) _)).mvB ((Below.refl _ _).alloc (Nat.le_refl _) _), (Box.new_ (by simp) _ _).alloc _, Nat.le_refl _, by omega, by omega⟩, Box.new_ (by simp) _ _, by omega, by omega, by omega⟩
  obtain ⟨m, _⟩ : ∃ m : Nat, True := ⟨3, trivial⟩
  refine (callsIn_wide (n := m)).1 ?_
  refine callsIn_of_wp_marks Try.func66 rfl trivial ?_
  simp only [Try.ntmps66, List.size_toArray, List.length_cons, List.length_nil, Nat.reduceAdd, Nat.reduceSub, Array.replicate_succ, Array.replicate_zero, List.push_toArray, List.append_toArray, List.nil_append, List.cons_append]
  obtain ⟨q0, q1, q2⟩ := hF0.fr.bm.cells
  gi_wp2_with fail
  refine wide_calls (pcheck_any i o rs A rs.length c W1 (hr.below hF0.fr.bel) rfl hnb RL.out) ?_
  rintro e w1 ⟨rfl, hb1⟩
  have hF := hF0.below hb1
  clear hF0 hb1 hW1 q0 q1 q2
  obtain ⟨q0, q1, q2⟩ := hF.fr.bm.cells
  have qc := hF.fr.br.1
  have qf := hF.fr.br.2
  have sc := hF.bs.1
  have sf := hF.bs.2
  have n12 : w.heap.size + 1 ≠ w.heap.size + 1 + 1 := by omega
  by_cases hz : Mc.chk ⟨i, o, rs⟩ = 0
  · have V := Mc.val_of hz
    have HV := Lib.hid (Mc.cmp_all V)
    have HE := Lib.hid (fun k p h => Mc.pl_ed (m := ⟨i, o, rs⟩) V (k := k) (p := p) h)
    clear V
    rw [hz]
    gi_wp2_with fail
    refine wide_calls (edges_any _ _ _ _ _ _) ?_
    rintro e w2 ⟨rfl, rfl⟩
    gi_wp2_with fail
    have hbx : Below w1.heap.size w1 (boxM w1 i o A rs.length c) := (Below.refl _ _).alloc (Nat.le_refl _) _
    have hz1 : w.heap.size + 3 ≤ w1.heap.size := by have := hF.bs.lt; omega
    have hG := edges1_gives (m - 1) w1.heap.size i o A rs.length c rs (fun b => b = w.heap.size + 1 ∨ b = w.heap.size + 1 + 1) w (boxM w1 i o A rs.length c) hr rfl (below_next hF.fr.bel hbx) (BxM.new w1 i o A rs.length c) (by show ¬ (_ ∨ _); omega) (fun b h => by rcases h with h | h <;> omega) hnb RL.out
    have hF1 := hF.below hbx
    have hs1 : w.heap.size + 4 ≤ (boxM w1 i o A rs.length c).heap.size := by simp; omega
    clear q0 q1 q2 qc qf sc sf
    refine range_list (m := m) 101 _ rfl (enters_of Try.func101 (by kernel_rfl) rfl) ((Mc.pl 0 rs).map ev) (fun b => b = w.heap.size + 1 ∨ b = w.heap.size + 1 + 1) (fun b h => by rcases h with h | h <;> omega) ?hps hG
      (fun k W => Fr2 w w.heap.size (w.heap.size + 1) (w.heap.size + 1 + 1) i o A rs.length c (.bool false) (.int .i64 0) W ∧ Hid (Mc.Alld (Mc.pl 0 rs) k))
      (fun c' W => c' = .ret ∧ Fr2 w w.heap.size (w.heap.size + 1) (w.heap.size + 1 + 1) i o A rs.length c (.bool false) (.int .i64 0) W ∧ Hid (Mc.cmpV ⟨i, o, rs⟩ = false))
      (fun k A B h c => ⟨h.1.cells c (by omega), h.2⟩) (fun c' A B h c => ⟨h.1, h.2.1.cells c (by omega), h.2.2⟩) ⟨hF1, by simp [Hid, Mc.Alld]⟩ ?round ?done ?stop
    case hps => intro v hv; obtain ⟨p, _, rfl⟩ := List.mem_map.1 hv; rfl
    case round =>
      intro l k v W hk hW ⟨hI, hA⟩
      rw [List.getElem?_map, Option.map_eq_some_iff] at hk
      obtain ⟨⟨s, j, x, y⟩, hp, rfl⟩ := hk
      have HP := Lib.hid hp
      have hxx := HE.out _ _ hp
      clear hp
      simp only [ev]
      gi_wp2_with fail
      refine ⟨(Below.refl _ _).alloc (Nat.le_refl _) _, fun W2 hc2 => ?_⟩
      obtain ⟨p0, p1, _, _⟩ := ((BxE.new W x y).mvC hc2).cells
      have hI2 := (hI.below ((Below.refl _ _).alloc (Nat.le_refl _) (.cells #[.int .i64 x, .int .i64 y] 27))).cells hc2 (by omega)
      clear hc2 hI hW
      gi_wp2_with fail
      refine round_calls (l := l) (defined_any _ _ _) ?_
      rintro e w3 ⟨rfl, hb3⟩
      have hI3 := hI2.below hb3
      have qc := hI3.fr.br.1
      have qf := hI3.fr.br.2
      have sc := hI3.bs.1
      have sf := hI3.bs.2
      by_cases hx : x = -1
      · have R : roundP (fun b => b = w.heap.size + 1 ∨ b = w.heap.size + 1 + 1) (fun k W => Fr2 w w.heap.size (w.heap.size + 1) (w.heap.size + 1 + 1) i o A rs.length c (.bool false) (.int .i64 0) W ∧ Hid (Mc.Alld (Mc.pl 0 rs) k)) (fun c' W => c' = .ret ∧ Fr2 w w.heap.size (w.heap.size + 1) (w.heap.size + 1 + 1) i o A rs.length c (.bool false) (.int .i64 0) W ∧ Hid (Mc.cmpV ⟨i, o, rs⟩ = false)) k W2 .ret ⟨#[], []⟩ ((w3.setCell ⟨w.heap.size + 1, 0, none⟩ (.bool false)).setCell ⟨w.heap.size + 1 + 1, 0, none⟩ (.int .i64 0)) :=
          ⟨⟨rfl, (hI3.put _).put2 _, by show _ = _; rw [HV.out]; exact Mc.all_hit HP.out (by simp [hx])⟩, ((KA.of_below hb3).trans (KA.set (D := (fun b => b = w.heap.size + 1 ∨ b = w.heap.size + 1 + 1)) _ (.inl rfl) _)).trans (KA.set (D := (fun b => b = w.heap.size + 1 ∨ b = w.heap.size + 1 + 1)) _ (.inr rfl) _)⟩
        have RH := Lib.hid R
        clear R
        have hxd : decide (x = -1) = true := decide_eq_true hx
        gi_wp2_with fail
        exact RH.out
      · have R : roundP (fun b => b = w.heap.size + 1 ∨ b = w.heap.size + 1 + 1) (fun k W => Fr2 w w.heap.size (w.heap.size + 1) (w.heap.size + 1 + 1) i o A rs.length c (.bool false) (.int .i64 0) W ∧ Hid (Mc.Alld (Mc.pl 0 rs) k)) (fun c' W => c' = .ret ∧ Fr2 w w.heap.size (w.heap.size + 1) (w.heap.size + 1 + 1) i o A rs.length c (.bool false) (.int .i64 0) W ∧ Hid (Mc.cmpV ⟨i, o, rs⟩ = false)) k W2 .normal ⟨#[], []⟩ w3 :=
          ⟨⟨hI3, Mc.all_snoc HP.out hA.out (by have := hxx.resolve_left hx; simpa using this)⟩, KA.of_below hb3⟩
        have RH := Lib.hid R
        clear R
        have hxd : decide (x = -1) = false := decide_eq_false hx
        gi_wp2_with fail
        exact RH.out
    case done =>
      intro N W hN ⟨hI, hA⟩ hd
      have hf : Hid (Mc.cmpV ⟨i, o, rs⟩ = true) := by
        show _ = _
        have := hA.out
        unfold Mc.Alld at this
        rw [List.length_map, List.take_length] at this
        rw [HV.out]; exact this
      have qc := hI.fr.br.1
      have qf := hI.fr.br.2
      have sc := hI.bs.1
      have sf := hI.bs.2
      have hI2 := (hI.put (.bool true)).put2 (.int .i64 0)
      have hd2 := far_deferred (far_deferred hd hI.fr.br (.bool true)) (hI.put (.bool true)).bs (.int .i64 0)
      have hI3 := hI2.shut hd2 (by omega)
      simp only [marked]
      gi_wp2_with fail
      refine ⟨by simp, .inl ⟨_, _, rfl, run_takeDeferred hd2, ?_⟩⟩
      refine ⟨.tuple #[.bool true, .int .i64 0], ?_, by rw [hf.out, hz], hI3.fr.bel⟩
      simp [results, Try.f66, go_sem, hI3.fr.br.1, hI3.bs.1]
    case stop =>
      rintro N c' W hN ⟨rfl, hI, hf⟩ hd
      have hI3 := hI.shut hd (by omega)
      simp only [marked]
      gi_wp2_with fail
      refine ⟨by simp, .inl ⟨_, _, rfl, run_takeDeferred hd, ?_⟩⟩
      refine ⟨.tuple #[.bool false, .int .i64 0], ?_, by rw [hf.out, hz], hI3.fr.bel⟩
      simp [results, Try.f66, go_sem, hI3.fr.br.1, hI3.bs.1]
  · have hzb : (Mc.chk ⟨i, o, rs⟩ == 0) = false := by rw [beq_eq_false_iff_ne]; exact hz
    have hv : Hid (Mc.cmpV ⟨i, o, rs⟩ = false) := by show _ = _; unfold Mc.cmpV; rw [if_neg hz]
    obtain ⟨z, hzz⟩ : ∃ z, Mc.chk ⟨i, o, rs⟩ = z := ⟨_, rfl⟩
    rw [hzz] at hz hzb ⊢
    have HZ := Lib.hid hzz
    clear hzz
    gi_wp2_with fail
    have hI3 := (hF.put (.bool false)).put2 (.int .i64 z)
    refine ⟨.tuple #[.bool false, .int .i64 z], ?_, by rw [hv.out, HZ.out], hI3.fr.bel⟩
    simp [results, Try.f66, go_sem, hI3.fr.br.1, hI3.bs.1]
end Go.Proofs.Ytgafpmgdpigliaa

namespace Go.Proofs.Ytgafpmgdpigliaa.Mc

theorem Rch.trans {m : Ma} {a b c : Nat} (h : Rch m a b) (k : Rch m b c) : Rch m a c := by
  induction k with
  | here => exact h
  | step _ hs hi hx ih => exact .step ih hs hi hx
/-- What a search from s adds to what is marked. -/
structure Srch (m : Ma) (s : Nat) (B B' : List Bool) : Prop where
  len : B'.length = B.length
  sub : ∀ k, T B k → T B' k
  has : T B' s
  snd : ∀ k, T B' k → T B k ∨ Rch m s k
  cls : ∀ k t, T B' k → ¬ T B k → Edge m k t → T B' t
theorem Srch.refl {m : Ma} {s : Nat} {B : List Bool} (h : T B s) : Srch m s B B := ⟨rfl, fun _ h => h, h, fun _ h => .inl h, fun _ _ h h' => absurd h h'⟩
theorem T_set' {B : List Bool} {t k : Nat} (h : T B k) : T (B.set t true) k := by
  unfold T at *
  rw [List.getElem?_set]
  split
  · rename_i e; subst e
    rw [if_pos (List.getElem?_eq_some_iff.1 h).1]
  · exact h
theorem T_new' {B : List Bool} {t : Nat} (h : t < B.length) : T (B.set t true) t := by
  unfold T; rw [List.getElem?_set]; simp [h]
theorem T_old' {B : List Bool} {t k : Nat} (h : T (B.set t true) k) : k = t ∨ T B k := by
  unfold T at *
  rw [List.getElem?_set] at h
  split at h
  · rename_i e; exact .inl e.symm
  · exact .inr h
theorem count_set : ∀ {B : List Bool} {s : Nat}, B[s]? = some false → (B.set s true).count true = B.count true + 1
  | [], s, h => by simp at h
  | a :: B, 0, h => by simp at h; subst h; simp
  | a :: B, s + 1, h => by
    have := count_set (B := B) (s := s) (by simpa using h)
    simp only [List.set_cons_succ, List.count_cons, this]
    omega
/-- In the middle of the row of s. -/
structure Smid (m : Ma) (s : Nat) (row : List Ed) (B B' : List Bool) (j : Nat) : Prop where
  len : B'.length = B.length
  sub : ∀ k, T B k → T B' k
  has : T B' s
  snd : ∀ k, T B' k → T B k ∨ Rch m s k
  cls : ∀ k t, T B' k → ¬ T B k → k ≠ s → Edge m k t → T B' t
  row : ∀ i x, i < j → row[i]? = some x → 0 ≤ x.1 → T B' x.1.toNat
section
variable {m : Ma} {s j : Nat} {row : List Ed} {B C B' : List Bool}
theorem Smid.start (h : s < B.length) : Smid m s row B (B.set s true) 0 := by
  refine ⟨by simp, fun k hk => T_set' hk, T_new' h, fun k hk => ?_, fun k t hk hn hs _ => ?_, fun i x hi => by omega⟩
  · rcases T_old' hk with rfl | h1
    · exact .inr .here
    · exact .inl h1
  · rcases T_old' hk with h1 | h1
    · exact absurd h1 hs
    · exact absurd h1 hn
theorem Smid.skip (h : Smid m s row B C j) {x : Ed} (hx : row[j]? = some x) (hn : ¬ 0 ≤ x.1) : Smid m s row B C (j + 1) := by
  refine ⟨h.len, h.sub, h.has, h.snd, h.cls, fun i y hi hy h0 => ?_⟩
  rcases Nat.lt_succ_iff_lt_or_eq.1 hi with h1 | rfl
  · exact h.row i y h1 hy h0
  · rw [hx] at hy; injection hy with hy; subst hy; exact absurd h0 hn
theorem Smid.put (h : Smid m s row B C j) (hr : m.r[s]? = some row) {x : Ed} (hx : row[j]? = some x) (h0 : 0 ≤ x.1) (k : Srch m x.1.toNat C B') : Smid m s row B B' (j + 1) := by
  have he : Rch m s x.1.toNat := .step .here hr hx h0
  refine ⟨k.len.trans h.len, fun a ha => k.sub a (h.sub a ha), k.sub s h.has, fun a ha => ?_, fun a t ha hn hs e => ?_, fun i y hi hy h1 => ?_⟩
  · rcases k.snd a ha with h1 | h1
    · exact h.snd a h1
    · exact .inr (he.trans h1)
  · by_cases hc : T C a
    · exact k.sub t (h.cls a t hc hn hs e)
    · exact k.cls a t ha hc e
  · rcases Nat.lt_succ_iff_lt_or_eq.1 hi with h2 | rfl
    · exact k.sub _ (h.row i y h2 hy h1)
    · rw [hx] at hy; injection hy with hy; subst hy; exact k.has
theorem Smid.done (h : Smid m s row B C j) (hr : m.r[s]? = some row) (hj : row.length ≤ j) : Srch m s B C := by
  refine ⟨h.len, h.sub, h.has, h.snd, fun k t hk hn e => ?_⟩
  by_cases hs : k = s
  · subst hs
    obtain ⟨row', i, x, h1, h2, h3, rfl⟩ := e
    rw [hr] at h1
    injection h1 with h1
    subst h1
    exact h.row i x (by have := (List.getElem?_eq_some_iff.1 h2).1; omega) h2 h3
  · exact h.cls k t hk hn hs e
end
theorem conn_cnt {m : Ma} (v : Val m) {B : List Bool} (h : Srch m 0 (List.replicate 64 false) B) : conn m = decide (B.count true = m.r.length) := by
  have hr0 := v.r0; have hr1 := v.r1
  have hl : B.length = 64 := by rw [h.len]; simp
  have hno : ∀ k, ¬ T (List.replicate 64 false) k := fun k hk => by
    have := List.eq_of_mem_replicate (List.mem_of_getElem? hk)
    cases this
  have hT : ∀ s, T B s ↔ Rch m 0 s := fun s => by
    constructor
    · intro hs; exact (h.snd s hs).resolve_left (hno s)
    · intro hs
      induction hs with
      | here => exact h.has
      | step _ hs hi hx ih => exact h.cls _ _ ih (hno _) ⟨_, _, _, hs, hi, hx, rfl⟩
  have hlt : ∀ s, T B s → s < m.r.length := fun s hs => Rch.lt v ((hT s).1 hs) (by omega)
  have hl2 : (B.take m.r.length).length = m.r.length := by rw [List.length_take]; omega
  have hT2 : ∀ s, T (B.take m.r.length) s ↔ Rch m 0 s := fun s => by
    rw [← hT s]
    unfold T
    rw [List.getElem?_take]
    constructor
    · intro h1; split at h1
      · exact h1
      · cases h1
    · intro h1; rw [if_pos (hlt s h1)]; exact h1
  rw [conn_all hl2 hT2]
  have hd : (B.drop m.r.length).count true = 0 := by
    rw [List.count_eq_zero]
    intro hm
    obtain ⟨k, hk⟩ := List.getElem?_of_mem hm
    rw [List.getElem?_drop] at hk
    have := hlt _ hk
    omega
  have hc : B.count true = (B.take m.r.length).count true := by
    conv => lhs; rw [← List.take_append_drop m.r.length B, List.count_append, hd]
    omega
  rw [hc, Bool.eq_iff_iff, decide_eq_true_iff]
  conv => rhs; rhs; rw [← hl2]
  rw [List.count_eq_length, List.all_eq_true]
  constructor
  · intro h1 b hb; have := h1 b hb; simpa using this.symm
  · intro h1 b hb; have := h1 b hb; simpa using this.symm
end Go.Proofs.Ytgafpmgdpigliaa.Mc

namespace Go.Proofs.Ytgafpmgdpigliaa
open Go.RowKit
open Mc (Ed Ma Pe)

/-- Block g is known whole: an array of bools. -/
def BlkB64 (w : World) (g : Nat) (cs : List Bool) : Prop := w.heap[g]? = some (.cells (cs.map Value.bool).toArray 188 (0, 0))
theorem BlkB64.at_ {w : World} {g : Nat} {cs : List Bool} (h : BlkB64 w g cs) {k : Nat} {b : Bool} (hk : cs[k]? = some b) : w.cell? ⟨g, k, none⟩ = some (.bool b) ∧ w.frozen? ⟨g, k, none⟩ = false := by
  constructor
  · rw [cell_of_row w g k _ 188 (0, 0) h]
    simp [hk]
  · unfold BlkB64 at h
    simp [World.frozen?, h]
theorem BlkB64.set_ {w : World} {g : Nat} {cs : List Bool} (h : BlkB64 w g cs) (k : Nat) (v : Bool) : BlkB64 (w.setCell ⟨g, k, none⟩ (.bool v)) g (cs.set k v) := by
  unfold BlkB64 at h ⊢
  simp [World.setCell, Array.getElem?_modify, h, List.map_set]
theorem BlkB64.far {w : World} {g b off : Nat} {cs : List Bool} (h : BlkB64 w g cs) (hne : g ≠ b) (u : Value) : BlkB64 (w.setCell ⟨b, off, none⟩ u) g cs := (Below.heap_setCell w ⟨b, off, none⟩ u g hne).trans h

theorem run_store_func {P : Program} {w : World} {a : Addr} {m : Mode} (f : Fn) (xs ys : Array Value) : (store a (.func f xs ys) m).run P w = stored P w a (.func f xs ys) m := run_store P w a _ m rfl
attribute [local go_sem] run_store_func

end Go.Proofs.Ytgafpmgdpigliaa
