/-
  Contract of splits: Table. No statement is proved here.
-/
import Derived.Test.YtonnplhiaidjnaaSq8
namespace Go.Proofs.Ytonnplhiaidjnaa
open Go.RowKit
open Mc (Ed Ma)
attribute [local go_sem] Oper.semAt_some

namespace Mc
theorem posP_two (n : Nat) : ∀ s, s ≤ n → 2 * posP n s + s * (s + 1) = 2 * n * s
  | 0, _ => by simp [posP, prsTo]
  | s + 1, h => by
    have ih := posP_two n s (by omega)
    have e1 : (s + 1) * (s + 1 + 1) = s * (s + 1) + 2 * (s + 1) := by rw [Nat.mul_succ, Nat.mul_comm (s + 1) (s + 1), Nat.succ_mul]; omega
    have e2 : 2 * n * (s + 1) = 2 * n * s + 2 * n := Nat.mul_succ _ _
    rw [posP_next, e1, e2]
    omega
theorem prs_two (n : Nat) : 2 * (prs n).length + n = n * n := by
  have h := posP_two n n (Nat.le_refl _)
  rw [posP_all, Nat.mul_succ, Nat.mul_assoc] at h
  omega
end Mc
theorem prr_info : (Try.prog.info? 81).map (fun i => (i.zero, i.size, i.bytes)) = some (some (.agg #[.int .i64 0, .int .i64 0, .slice none 0 0, .bool false]), 4, 48) := by kernel_rfl

/-- One entry of a table: two states, the word in a block behind G. -/
def PrE (m : Ma) (w : World) (G : Nat) (p : Nat × Nat) (vs : List Value) (k : Nat) : Prop :=
  ∃ B, vs[k * 4]? = some (.int .i64 p.1) ∧ vs[k * 4 + 1]? = some (.int .i64 p.2) ∧ vs[k * 4 + 2]? = some (.slice (some ⟨B, 0, none⟩) (Mc.sl m p.1 p.2) (Mc.sl m p.1 p.2)) ∧ vs[k * 4 + 3]? = some (.bool (decide (0 < Mc.sl m p.1 p.2))) ∧ G < B ∧ Blk w B (Mc.sepw m p.1 p.2)
/-- The entries of some pairs. -/
def PrL (m : Ma) (w : World) (G : Nat) (ps : List (Nat × Nat)) (vs : List Value) : Prop := ∀ k p, ps[k]? = some p → PrE m w G p vs k
theorem Blk.same_ {w w' : World} {B : Nat} {xs : List Int} (h : Blk w B xs) (e : w'.heap[B]? = w.heap[B]?) : Blk w' B xs := e.trans h
section
variable {m : Ma} {w w' : World} {G k : Nat} {ps : List (Nat × Nat)} {vs : List Value} {p : Nat × Nat}
theorem PrL.mv (h : PrL m w G ps vs) (e : ∀ B xs, G < B → Blk w B xs → Blk w' B xs) : PrL m w' G ps vs := fun k p hp => by
  obtain ⟨B, h1, h2, h3, h4, h5, h6⟩ := h k p hp
  exact ⟨B, h1, h2, h3, h4, h5, e B _ h5 h6⟩
theorem PrL.cells {C : Nat} (h : PrL m w G ps vs) (k : Cells C w w') : PrL m w' G ps vs := h.mv fun _ _ _ hb => k.same _ _ hb rfl
theorem PrL.below (h : PrL m w G ps vs) (k : Below w.heap.size w w') : PrL m w' G ps vs := h.cells (Cells.of_below' k)
theorem PrL.push (h : PrL m w G ps vs) (hl : vs.length = ps.length * 4) {s t B L : Nat} (hL : Mc.sl m s t = L) (hG : G < B) (hB : Blk w B (Mc.sepw m s t)) :
    PrL m w G (ps ++ [(s, t)]) (vs ++ [.int .i64 s, .int .i64 t, .slice (some ⟨B, 0, none⟩) L L, .bool (decide (0 < L))]) := fun k p hp => by
  subst hL
  by_cases e : k < ps.length
  · rw [List.getElem?_append_left e] at hp
    obtain ⟨B', h1, h2, h3, h4, h5, h6⟩ := h k p hp
    refine ⟨B', ?_, ?_, ?_, ?_, h5, h6⟩
    · rw [List.getElem?_append_left (by omega)]; exact h1
    · rw [List.getElem?_append_left (by omega)]; exact h2
    · rw [List.getElem?_append_left (by omega)]; exact h3
    · rw [List.getElem?_append_left (by omega)]; exact h4
  · have hk : k = ps.length := by
      have := (List.getElem?_eq_some_iff.1 hp).1
      simp at this
      omega
    subst hk
    rw [List.getElem?_append_right (Nat.le_refl _), Nat.sub_self] at hp
    simp at hp
    subst hp
    refine ⟨B, ?_, ?_, ?_, ?_, hG, hB⟩
    · rw [List.getElem?_append_right (by omega), show ps.length * 4 - vs.length = 0 by omega]; rfl
    · rw [List.getElem?_append_right (by omega), show ps.length * 4 + 1 - vs.length = 1 by omega]; rfl
    · rw [List.getElem?_append_right (by omega), show ps.length * 4 + 2 - vs.length = 2 by omega]; rfl
    · rw [List.getElem?_append_right (by omega), show ps.length * 4 + 3 - vs.length = 3 by omega]; rfl
end
/-- A table in memory. -/
def PrT (m : Ma) (w : World) (G : Nat) (ps : List (Nat × Nat)) : Prop := ∃ cs : Array Value, w.heap[G]? = some (.cells cs 81 (0, 0)) ∧ PrL m w G ps cs.toList
section
variable {m : Ma} {w w' : World} {G k : Nat} {ps : List (Nat × Nat)} {s t : Nat}
theorem PrT.lt (h : PrT m w G ps) : G < w.heap.size := by obtain ⟨cs, h1, _⟩ := h; exact heap_lt h1
theorem PrT.below (h : PrT m w G ps) (hb : Below w.heap.size w w') : PrT m w' G ps := by
  obtain ⟨cs, h1, h2⟩ := h
  exact ⟨cs, (hb.block G (heap_lt h1)).trans h1, h2.below hb⟩
theorem PrT.at_ (h : PrT m w G ps) (hk : ps[k]? = some (s, t)) : ∃ B, w.cell? ⟨G, k * 4, none⟩ = some (.int .i64 s) ∧ w.cell? ⟨G, k * 4 + 1, none⟩ = some (.int .i64 t) ∧ w.cell? ⟨G, k * 4 + 2, none⟩ = some (.slice (some ⟨B, 0, none⟩) (Mc.sl m s t) (Mc.sl m s t)) ∧ w.cell? ⟨G, k * 4 + 3, none⟩ = some (.bool (decide (0 < Mc.sl m s t))) ∧ Rd w (some ⟨B, 0, none⟩) (Mc.sepw m s t) := by
  obtain ⟨cs, h1, h2⟩ := h
  obtain ⟨B, h3, h4, h5, h6, _, h7⟩ := h2 k _ hk
  simp only [Array.getElem?_toList] at h3 h4 h5 h6
  refine ⟨B, ?_, ?_, ?_, ?_, Rd.of_block h7⟩
  · rw [cell_of_row _ _ _ _ _ _ h1]; exact h3
  · rw [cell_of_row _ _ _ _ _ _ h1]; exact h4
  · rw [cell_of_row _ _ _ _ _ _ h1]; exact h5
  · rw [cell_of_row _ _ _ _ _ _ h1]; exact h6
end

/-- A call of Table in memory: the boxes of the heads' address and of the table, the table's block between them. -/
structure FrT (m : Ma) (w : World) (P Q g i : Nat) (o : Int) (R : Option Addr) (n c : Nat) (f h : Nat → Nat → Nat) (N k : Nat) (vs : List Value) (W : World) : Prop where
  bel : Below w.heap.size w W
  bm : BxM W w.heap.size i o R n c
  p : Box W P (.pointer (some ⟨g, 0, none⟩))
  q : Box W (Q) (.slice (some ⟨P + 1, 0, none⟩) k N)
  own : W.ownsRow (P + 1) 81 4 (.slice (some ⟨P + 1, 0, none⟩) k N) k vs
  hd : Hds W g f h
  pl : PrL m W (Q) ((Mc.prs n).take k) vs
  wP : w.heap.size < P
  gP : g < P
  PQ : P + 1 < Q
theorem own_cells {B base : Nat} {W W' : World} {v : Value} {k : Nat} {e : TypeId} {sz : Nat} {vs : List Value} (h : W.ownsRow base e sz v k vs) (c : Cells B W W') : W'.ownsRow base e sz v k vs := by
  obtain ⟨h1, h2⟩ := h
  refine ⟨h1, h2.imp id ?_⟩
  rintro ⟨g, cap, cur, e1, e2, e3, e4⟩
  exact ⟨g, cap, cur, e1, e2, c.same _ _ e3 rfl, e4⟩
section
variable {m : Ma} {w : World} {P Q g i : Nat} {o : Int} {R : Option Addr} {n c : Nat} {f h : Nat → Nat → Nat} {N k : Nat} {vs : List Value} {W W' : World}
theorem FrT.cells {C : Nat} (H : FrT m w P Q g i o R n c f h N k vs W) (kk : Cells C W W') (hC : w.heap.size ≤ C) : FrT m w P Q g i o R n c f h N k vs W' :=
  ⟨kk.below hC H.bel, kk.same _ _ H.bm rfl, H.p.cells kk, H.q.cells kk, own_cells H.own kk, H.hd.cells kk, H.pl.cells kk, H.wP, H.gP, H.PQ⟩
theorem FrT.below (H : FrT m w P Q g i o R n c f h N k vs W) (kk : Below W.heap.size W W') : FrT m w P Q g i o R n c f h N k vs W' := H.cells (Cells.of_below' kk) H.bel.size
theorem FrT.push (H : FrT m w P Q g i o R n c f h N k vs W) (hg : W.grownBy W' (some (P + 1))) {s t B L : Nat} (hp : (Mc.prs n)[k]? = some (s, t)) (hL : Mc.sl m s t = L) (hB : Blk W B (Mc.sepw m s t)) (hBP : Q < B)
    (own' : W'.ownsRow (P + 1) 81 4 (.slice (some ⟨P + 1, 0, none⟩) (k + 1) N) (k + 1) (vs ++ [.int .i64 s, .int .i64 t, .slice (some ⟨B, 0, none⟩) L L, .bool (decide (0 < L))])) :
    FrT m w P Q g i o R n c f h N (k + 1) (vs ++ [.int .i64 s, .int .i64 t, .slice (some ⟨B, 0, none⟩) L L, .bool (decide (0 < L))]) (W'.setCell ⟨Q, 0, none⟩ (.slice (some ⟨P + 1, 0, none⟩) (k + 1) N)) := by
  have hkl : k < (Mc.prs n).length := (List.getElem?_eq_some_iff.1 hp).1
  have hw := H.wP
  have hgP := H.gP
  have hPQ := H.PQ
  have key : ∀ b ob, b ≠ P + 1 → W.heap[b]? = some ob → W'.heap[b]? = some ob := fun b ob h1 h2 => (hg.block b (heap_lt h2) (fun e => h1 (Option.some.inj e))).trans h2
  have key2 : ∀ b ob, b ≠ P + 1 → b ≠ Q → W.heap[b]? = some ob → (W'.setCell ⟨Q, 0, none⟩ (.slice (some ⟨P + 1, 0, none⟩) (k + 1) N)).heap[b]? = some ob := fun b ob h1 h3 h2 =>
    (Below.heap_setCell W' ⟨Q, 0, none⟩ _ b h3).trans (key b ob h1 h2)
  obtain ⟨xp, hxp, _⟩ := cell_block H.p.1
  obtain ⟨xq, hxq, _⟩ := cell_block H.q.1
  have hq' : Box W' (Q) (.slice (some ⟨P + 1, 0, none⟩) k N) := ⟨(World.cell?_of_block (w := W) (a := ⟨Q, 0, none⟩) ((key _ _ (by omega) hxq).trans hxq.symm)).trans H.q.1, (World.frozen?_of_block (w := W) (a := ⟨Q, 0, none⟩) ((key _ _ (by omega) hxq).trans hxq.symm)).trans H.q.2⟩
  have hpl : PrL m W (Q) ((Mc.prs n).take (k + 1)) (vs ++ [.int .i64 s, .int .i64 t, .slice (some ⟨B, 0, none⟩) L L, .bool (decide (0 < L))]) := by
    rw [List.take_add_one, hp]
    exact H.pl.push (by rw [List.length_take]; have := H.own.1; omega) hL hBP hB
  refine ⟨?_, key2 _ _ (by omega) (by omega) H.bm, ?_, hq'.set_ _, ?_, ?_, hpl.mv fun B' xs hb hB' => key2 _ _ (by omega) (by omega) hB', hw, hgP, hPQ⟩
  · refine Below.setCell (p := ⟨Q, 0, none⟩) ?_ (by show _ ≤ Q; omega) _
    exact H.bel.grown hg H.bel.size (fun j hj => by cases hj; omega)
  · have e := key2 P xp (by omega) (by omega) hxp
    exact ⟨(World.cell?_of_block (w := W) (a := ⟨P, 0, none⟩) (e.trans hxp.symm)).trans H.p.1, (World.frozen?_of_block (w := W) (a := ⟨P, 0, none⟩) (e.trans hxp.symm)).trans H.p.2⟩
  · obtain ⟨h1, h2⟩ := own'
    refine ⟨h1, h2.imp id ?_⟩
    rintro ⟨g', cap, cur, e1, e2, e3, e4⟩
    refine ⟨g', cap, cur, e1, e2, ?_, e4⟩
    injection e1 with e1
    injection e1 with e1
    injection e1 with e1
    subst e1
    exact (Below.heap_setCell W' ⟨Q, 0, none⟩ _ (P + 1) (by show P + 1 ≠ Q; omega)).trans e3
  · obtain ⟨cs, h1, h2⟩ := H.hd
    exact ⟨cs, key2 _ _ (by omega) (by omega) h1, h2⟩
end
theorem KA.grown {D : Nat → Prop} {W W' : World} {G : Nat} (hg : W.grownBy W' (some G)) (hD : D G) : KA D W W' :=
  ⟨hg.size, fun b _ hb ho => (hg.block b (hlt ho) (fun e => hb (by cases e; exact hD))).trans ho⟩
theorem cells_new4 (w : World) (a b c d : Value) (t : TypeId) : ∀ j u, [a, b, c, d][j]? = some u → (w.alloc (.cells #[a, b, c, d] t)).cell? ((⟨w.heap.size, 0, none⟩ : Addr).add j) = some u := by
  intro j u hj
  match j, hj with
  | 0, hj => simp at hj; subst hj; simp [Addr.add]
  | 1, hj => simp at hj; subst hj; simp [Addr.add]
  | 2, hj => simp at hj; subst hj; simp [Addr.add]
  | 3, hj => simp at hj; subst hj; simp [Addr.add]
set_option maxRecDepth 100000 in
theorem table_err (i o : Int) (rs : List (List Ed)) (A : Option Addr) (n c : Nat) (w : World) (hr : RdR w A rs) (hn : rs.length = n) (hnb : n ≤ 1000000) (hrl : ∀ row ∈ rs, row.length ≤ 1000000) (E : Int) (hE : Mc.chk ⟨i, o, rs⟩ = E) (hne : E ≠ 0) :
    Calls Try.prog 40 #[.agg #[.int .i64 i, .int .i64 o, .slice A n c]] w fun e w' => e = .returned (.tuple #[.slice none 0 0, .int .i64 E]) ∧ Below w.heap.size w w' := by
  have b1 : Below w.heap.size w (boxM w i o A n c) := (Below.refl _ _).alloc (Nat.le_refl _) _
  have C1 := scheck_any i o rs A none n c 0 0 [] _ (hr.below b1) Rd.nil_ hn rfl hnb hrl (by omega)
  rw [Mc.skE_nil, hE] at C1
  have HB := Lib.hid b1
  have hne' : (E != 0) = true := by simp [hne]
  obtain ⟨m0, m1, m2⟩ := BxM.cells (BxM.new w i o A n c)
  clear b1 hr hrl hE
  go_enter Try.func40, Try.ntmps40
  go_wp2_with fail
  refine C1.mono ?_
  rintro e w1 ⟨rfl, hb1⟩
  have hbF := Lib.hid (below_next HB.out hb1)
  go_wp2_with fail
  go_returns
  exact ⟨rfl, hbF.out⟩
set_option maxRecDepth 100000 in
set_option maxHeartbeats 4000000 in
theorem table_ok (m : Ma) (i : Nat) (o : Int) (A : Option Addr) (n c : Nat) (w : World) (v : Mc.Val m) (hi : m.i = i) (ho : m.o = o) (hn : m.r.length = n) (hr : RdR w A m.r) :
    Calls Try.prog 40 #[.agg #[.int .i64 i, .int .i64 o, .slice A n c]] w fun e w' => ∃ G, e = .returned (.tuple #[.slice (some ⟨G, 0, none⟩) (Mc.prs n).length (Mc.prs n).length, .int .i64 0]) ∧ PrT m w' G (Mc.prs n) ∧ Below w.heap.size w w' := by
  have hn64 : n ≤ 64 := by have := v.r1; omega
  have b1 : Below w.heap.size w (boxM w i o A n c) := (Below.refl _ _).alloc (Nat.le_refl _) _
  have C1 := scheck_any m.i m.o m.r A none n c 0 0 [] _ (hr.below b1) Rd.nil_ hn rfl (by omega) (fun row hrow => by have := v.len row hrow; have := v.i1; omega) (by omega)
  rw [Mc.skE_nil, show Mc.chk ⟨m.i, m.o, m.r⟩ = 0 from Mc.chk_of v, hi, ho] at C1
  have CS := fun w hr => search_any m i o A n c w v hi hn hr
  have CW := fun g f h s t w hr H hT hs ht => word_any m i o A n c g f h s t w v hi hn hr H hT hs ht
  obtain ⟨N, hN⟩ : ∃ N, (Mc.prs n).length = N := ⟨_, rfl⟩
  have h2N := Mc.prs_two n
  rw [hN] at h2N
  have hN1 : N ≤ 2048 := by
    have := Nat.mul_le_mul hn64 hn64
    omega
  have hNI : (n : Int) * ((n : Int) - 1) = 2 * N := by
    have h4 : (n : Int) * (n : Int) = 2 * N + n := by rw [← Int.natCast_mul, ← h2N]; omega
    rw [Int.mul_sub, Int.mul_one, h4]
    omega
  have hq1 : IntKind.i64.wrap ((n : Int) - 1) = (n : Int) - 1 := IntWalk.i64_in _ (by omega)
  have hq2 : IntKind.i64.wrap (2 * (N : Int)) = 2 * N := IntWalk.i64_in _ (by omega)
  have hq3 : (2 * (N : Int)).tdiv 2 = N := by rw [Int.tdiv_eq_ediv_of_nonneg (by omega)]; omega
  have HV := Lib.hid v
  have HN := Lib.hid hn
  have HR := Lib.hid hr
  have HB := Lib.hid b1
  have HM := Lib.hid (BxM.new w i o A n c)
  have HNN := Lib.hid hN
  obtain ⟨k0, hk0, hv0, hv1, hv2⟩ := info_parts prr_info
  rw [hN]
  clear b1 v hi ho hn hr h2N hN
  obtain ⟨m9, _⟩ : ∃ m9 : Nat, True := ⟨3, trivial⟩
  refine (callsIn_wide (n := m9)).1 ?_
  refine callsIn_of_wp_marks Try.func40 rfl trivial ?_
  simp only [Try.ntmps40, List.size_toArray, List.length_cons, List.length_nil, Nat.reduceAdd, Nat.reduceSub, Array.replicate_succ, Array.replicate_zero, List.push_toArray, List.append_toArray, List.nil_append, List.cons_append]
  obtain ⟨x0, x1, x2⟩ := BxM.cells HM.out
  gi_wp2_with fail
  clear x0 x1 x2
  refine wide_calls C1 ?_
  rintro e w1 ⟨rfl, hb1⟩
  have hM1 := HM.out.mvB hb1
  have hb2 := below_next HB.out hb1
  clear C1
  obtain ⟨x0, x1, x2⟩ := BxM.cells hM1
  gi_wp2_with fail
  clear x0 x1 x2
  refine wide_calls (CS _ (HR.out.below hb2)) ?_
  rintro e w2 ⟨g, f, h, rfl, hgw, hH, hT, hb3⟩
  have hM2 := hM1.mvB hb3.out
  have hb4 := below_next hb2 hb3.out
  have hgl := hH.out.lt
  obtain ⟨P, hP⟩ : ∃ P, w2.heap.size = P := ⟨_, rfl⟩
  have hwP : w.heap.size < P := by rw [← hP]; exact heap_lt hM2
  have hM3 : BxM (w2.alloc (.cells #[.pointer (some ⟨g, 0, none⟩)] 108)) w.heap.size i o A n c := hM2.mvB ((Below.refl _ _).alloc (Nat.le_refl _) _)
  have hp3 : Box (w2.alloc (.cells #[.pointer (some ⟨g, 0, none⟩)] 108)) P (.pointer (some ⟨g, 0, none⟩)) := Box.new_ hP _ _
  have hbP : Below w2.heap.size w2 (w2.alloc (.cells #[.pointer (some ⟨g, 0, none⟩)] 108)) := (Below.refl _ _).alloc (Nat.le_refl _) _
  obtain ⟨x0, x1, x2⟩ := BxM.cells hM3
  have HT := Lib.hid hT.out
  gi_wp2_with (gi_at_make; refine wpListIn_make_own _ rfl _ _ 75 rfl (P + 1) 81 k0 _ 4 Try.underlying75 hk0 hv0 hv1 .i64 .i64 _ N rfl ?mc rfl ?mb ?ml ?mz ?_)
  case mc => exact rfl
  case mb => rw [hv2]; omega
  case ml => unfold maxLen; omega
  case mz => simp [hP]
  intro w3 hown hg3
  clear x0 x1 x2
  have hb5 : Below w2.heap.size w2 w3 := hbP.grown hg3 hbP.size (fun j hj => by cases hj)
  have hM4 : BxM w3 w.heap.size i o A n c := hM2.mvB hb5
  have hp4 : Box w3 P (.pointer (some ⟨g, 0, none⟩)) := by
    obtain ⟨x, hx, _⟩ := cell_block hp3.1
    have e := hg3.block P (heap_lt hx) (fun e => by cases e)
    exact ⟨(World.cell?_of_block (w := (w2.alloc (.cells #[.pointer (some ⟨g, 0, none⟩)] 108))) (a := ⟨P, 0, none⟩) e).trans hp3.1, (World.frozen?_of_block (w := (w2.alloc (.cells #[.pointer (some ⟨g, 0, none⟩)] 108))) (a := ⟨P, 0, none⟩) e).trans hp3.2⟩
  have hPQ : P + 1 < w3.heap.size := by
    rcases hown.2 with ⟨e, _⟩ | ⟨g', cap, cur, e, _, e2, _⟩
    · cases e
    · injection e with e
      injection e with e
      injection e with e
      subst e
      exact heap_lt e2
  have hb6 := below_next hb4 hb5
  have hH3 := hH.out.below hb5
  obtain ⟨Q, hQ⟩ : ∃ Q, w3.heap.size = Q := ⟨_, rfl⟩
  rw [hQ] at hPQ
  have f0 : FrT m w P Q g i o A n c f h N 0 [] (w3.alloc (.cells #[.slice (some ⟨P + 1, 0, none⟩) 0 N] 75)) := by
    have q1 : Below w3.heap.size w3 (w3.alloc (.cells #[.slice (some ⟨P + 1, 0, none⟩) 0 N] 75)) := (Below.refl _ _).alloc (Nat.le_refl _) _
    refine ⟨below_next hb6 q1, hM4.mvB q1, hp4.below q1, Box.new_ hQ _ _, own_cells hown (Cells.of_below' q1), hH3.below q1, fun k p hp => by simp at hp, hwP, by omega, hPQ⟩
  clear hM1 hM2 hM3 hM4 hp3 hp4 hb1 hb2 hb3 hb4 hb5 hb6 hgw hH hH3 hbP CS hgl hown hg3 hv0 hv2 hq1 hq2 hq3 hNI hP
  gi_wp2_with fail
  try rw [hQ]
  refine wide_calls (pairs_any _ _) ?_
  rintro e w5 ⟨rfl, rfl⟩
  gi_wp2_with fail
  obtain ⟨X, hX⟩ : ∃ X, (w3.alloc (.cells #[.slice (some ⟨P + 1, 0, none⟩) 0 N] 75)).alloc (.cells #[.int .i64 n] 3) = X := ⟨_, rfl⟩
  have f1 : FrT m w P Q g i o A n c f h N 0 [] X := by rw [← hX]; exact f0.below ((Below.refl _ _).alloc (Nat.le_refl _) _)
  have hbx : Box X (Q + 1) (.int .i64 n) := by rw [← hX]; exact Box.new_ (by simp [hQ]) _ _
  have hXs : Q + 1 < X.heap.size := hbx.lt
  rw [hX]
  try rw [hQ]
  clear f0 hX hQ
  have hG := pairs1_gives (m9 - 1) (Q + 1) n (fun b => b = P + 1 ∨ b = Q) X hbx (by omega) (by omega)
  refine range_list (m := m9) 83 _ rfl (enters_of Try.func83 (by kernel_rfl) rfl) ((Mc.prs n).map pv) (fun b => b = P + 1 ∨ b = Q) (fun b h => by show b < _; omega) ?hps hG
    (fun k W => ∃ vs, FrT m w P Q g i o A n c f h N k vs W ∧ k ≤ N)
    (fun _ _ => False)
    (fun k A B h c => ?keep) (fun c' A B h c => h) ⟨[], f1, Nat.zero_le _⟩ ?round ?done ?stop
  case hps => intro v hv; obtain ⟨p, _, rfl⟩ := List.mem_map.1 hv; rfl
  case keep => obtain ⟨vs, h1, h2⟩ := h; exact ⟨vs, h1.cells c (by have := f1.bel.size; omega), h2⟩
  case stop => rintro N c' W hN h; exact h.elim
  case done =>
    intro N' W hN ⟨vs, hI, _⟩ hd
    rw [List.length_map, HNN.out] at hI
    have qc := hI.q.1
    have hI3 := hI.cells (C := N') (Cells.put (.deferred none) hd rfl (Nat.le_refl N')) (by have := f1.bel.size; omega)
    have hbF := Lib.hid hI3.bel
    have hPT : Hid (PrT m (W.putObj N' (.deferred none)) (P + 1) (Mc.prs n)) := by
      obtain ⟨h1, h2⟩ := hI3.own
      rcases h2 with ⟨e, _⟩ | ⟨g', cap, cur, e1, e2, e3, e4, e5, e6, e7⟩
      · cases e
      · injection e1 with e1 e8 e9
        injection e1 with e1
        injection e1 with e1
        subst e1 e9
        refine ⟨cur, e3, ?_⟩
        have h5 := hI3.pl
        rw [List.take_of_length_le (by rw [HNN.out]; exact Nat.le_refl _), ← e7, List.take_of_length_le (by rw [Array.length_toList]; omega)] at h5
        exact fun k p hp => by
          obtain ⟨B, q1, q2, q3, q4, q5, q6⟩ := h5 k p hp
          exact ⟨B, q1, q2, q3, q4, by omega, q6⟩
    clear hG hbx f1 hI hI3
    simp only [marked]
    gi_wp2_with fail
    refine ⟨by simp, .inl ⟨_, _, rfl, run_takeDeferred hd, ?_⟩⟩
    refine ⟨_, by simp [results, Try.f40, go_sem], _, rfl, hPT.out, hbF.out⟩
  case round =>
    intro l k v W hk hW ⟨vs, hI, hkl⟩
    rw [List.getElem?_map, Option.map_eq_some_iff] at hk
    obtain ⟨⟨s, t⟩, hp, rfl⟩ := hk
    obtain ⟨hst, htn⟩ := Mc.prs_lt hp
    have hkN : k < N := by rw [← HNN.out]; exact (List.getElem?_eq_some_iff.1 hp).1
    simp only at hst htn
    have HP := Lib.hid hp
    clear hp hG hbx
    simp only [pv]
    gi_wp2_with fail
    refine ⟨Below.refl _ _, fun W2 hc2 => ?_⟩
    have hI2 := hI.cells hc2 (by have := f1.bel.size; omega)
    clear hI hc2 f1
    obtain ⟨x0, x1, x2⟩ := hI2.bm.cells
    have p1 := hI2.p.1
    have HI2 := Lib.hid hI2
    clear hI2
    gi_wp2_with fail
    clear x0 x1 x2 p1
    refine round_calls (l := l) (CW g f h s t W2 (HR.out.below HI2.out.bel) HI2.out.hd HT.out (by omega) htn) ?_
    rintro e w6 ⟨B, rfl, hBg, hB, hb6⟩
    have hI3 := HI2.out.below hb6
    have hBQ : Q < B := by have := HI2.out.q.lt; omega
    have hK6 : Hid (KA (fun b => b = P + 1 ∨ b = Q) W2 w6) := KA.of_below hb6
    obtain ⟨L, hL⟩ : ∃ L, Mc.sl m s t = L := ⟨_, rfl⟩
    rw [hL]
    have HL := Lib.hid hL
    obtain ⟨bb, hbb⟩ : ∃ b, decide (0 < L) = b := ⟨_, rfl⟩
    have hLb : decide ((L : Int) > 0) = bb := by rw [← hbb]; simp
    have hLb2 : decide (0 < (L : Int)) = bb := by rw [← hbb]; simp
    have q1 := hI3.q.1
    have HI3 := Lib.hid hI3
    clear hI3 hb6 HI2 hL hBg
    have hb7 : Below w6.heap.size w6 (w6.alloc (.cells #[.int .i64 s, .int .i64 t, .slice (some ⟨B, 0, none⟩) L L, .bool bb] 81)) := (Below.refl _ _).alloc (Nat.le_refl _) _
    have hI4 := HI3.out.below hb7
    have hown4 := hI4.own
    have HI4 := Lib.hid hI4
    have hB4 : Hid (Blk (w6.alloc (.cells #[.int .i64 s, .int .i64 t, .slice (some ⟨B, 0, none⟩) L L, .bool bb] 81)) B (Mc.sepw m s t)) := Blk.same_ hB.out (hb7.block B (heap_lt hB.out))
    have hK7 := Lib.hid (hK6.out.trans (KA.of_below hb7))
    clear hI4 hb7 HI3 hB hK6
    gi_wp2_with (gi_at_builtin; refine wpListIn_append_fits _ rfl _ _ 75 rfl (P + 1) 81 k0 4 Try.underlying75 hk0 hv1 (P + 1) k N vs rfl hown4 ⟨w6.heap.size, 0, none⟩ 1 1 [.int .i64 s, .int .i64 t, .slice (some ⟨B, 0, none⟩) L L, .bool bb] rfl rfl ?c1 ?c2 ?c3 ?_)
    case c1 => exact cells_new4 _ _ _ _ _ _
    case c2 => intro u hu; simp at hu; rcases hu with rfl | rfl | rfl | rfl <;> rfl
    case c3 => omega
    intro w7 hown7 hg7
    have hpush := HI4.out.push hg7 HP.out HL.out hB4.out (by have := HI4.out.PQ; omega) (by rw [hbb]; exact hown7)
    have hlast : Hid (∀ a, roundP (fun b => b = P + 1 ∨ b = Q) (fun k W => ∃ vs, FrT m w P Q g i o A n c f h N k vs W ∧ k ≤ N) (fun _ _ => False) k W2 .normal a (w7.setCell ⟨Q, 0, none⟩ (.slice (some ⟨P + 1, 0, none⟩) (k + 1) N))) :=
      fun _ => ⟨⟨_, hpush, by omega⟩, (hK7.out.trans (KA.grown hg7 (Or.inl rfl))).trans (KA.set (D := fun b => b = P + 1 ∨ b = Q) w7 (Or.inr rfl) _)⟩
    have q2 : Box w7 Q (.slice (some ⟨P + 1, 0, none⟩) k N) := by
      obtain ⟨x, hx, _⟩ := cell_block HI4.out.q.1
      have e := hg7.block Q (heap_lt hx) (fun e => by cases e; have := HI4.out.PQ; omega)
      exact ⟨(World.cell?_of_block (w := (w6.alloc (.cells #[.int .i64 s, .int .i64 t, .slice (some ⟨B, 0, none⟩) L L, .bool bb] 81))) (a := ⟨Q, 0, none⟩) e).trans HI4.out.q.1, (World.frozen?_of_block (w := (w6.alloc (.cells #[.int .i64 s, .int .i64 t, .slice (some ⟨B, 0, none⟩) L L, .bool bb] 81))) (a := ⟨Q, 0, none⟩) e).trans HI4.out.q.2⟩
    obtain ⟨q3, q4⟩ := q2
    clear hpush hown7 hg7 hown4 HI4 hB4 hK7
    gi_wp2_with fail
    exact hlast.out _
end Go.Proofs.Ytonnplhiaidjnaa
