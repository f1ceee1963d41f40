/-
  Contract: the reference's Paths. No statement is proved here.
-/
import Derived.Test.YtldpfbmkmehadaaSWk1
import Derived.Test.YtldpfbmkmehadaaSMc5
import Derived.Test.YtldpfbmkmehadaaSMc6
import Derived.Test.YtldpfbmkmehadaaSMc8
import Derived.Test.YtldpfbmkmehadaaSMc9
import Derived.Test.YtldpfbmkmehadaaWkZ
import Derived.Deep.LoopGhost
namespace Go.Proofs.Ytldpfbmkmehadaa
open Go.RowKit
open Mc (Ed Ma)

/-- A word of the call's own. -/
abbrev OwI (w : World) (base : Nat) (v : Value) (x : List Int) : Prop := w.ownsRow base 3 1 v x.length (ints x)
theorem OwI.away {w : World} {base : Nat} {v : Value} {x : List Int} (h : OwI w base v x) {G k : Nat} (u : Value) (hG : G < base) : OwI (w.setCell ⟨G, k, none⟩ u) base v x :=
  h.kept (grown_setCell w ⟨G, k, none⟩ u) (by
    cases hv : v.ownBlock with
    | none => exact Or.inl rfl
    | some j => exact Or.inr fun e => by injection e with e; have := (h.lt j hv).1; simp at e; omega)
theorem OwI.nil_ (w : World) (base : Nat) : OwI w base (.slice none 0 0) [] := World.ownsRow_nil _ _ _ _
/-- Block g holds the words l, each in memory from base on. -/
def Ws (w : World) (g base : Nat) (l : List (List Int)) : Prop := ∃ vs : List Value, w.heap[g]? = some (.cells vs.toArray 36 (0, 0)) ∧ vs.length = l.length ∧ ∀ (k : Nat) (x : List Int), l[k]? = some x → ∃ v, vs[k]? = some v ∧ OwI w base v x
section
variable {w w' : World} {g base : Nat} {l : List (List Int)}
theorem Ws.lt (h : Ws w g base l) : g < w.heap.size := by
  obtain ⟨vs, h1, _⟩ := h
  exact (Array.getElem?_eq_some_iff.1 h1).1
theorem Ws.below (h : Ws w g base l) (hb : Below w.heap.size w w') : Ws w' g base l := by
  have hl := h.lt
  obtain ⟨vs, h1, h2, h3⟩ := h
  refine ⟨vs, (hb.block g hl).trans h1, h2, fun k x hk => ?_⟩
  obtain ⟨v, h4, h5⟩ := h3 k x hk
  exact ⟨v, h4, own_below h5 hb⟩
theorem Ws.away (h : Ws w g base l) {G k : Nat} (u : Value) (hG : G < base) (hne : G ≠ g) : Ws (w.setCell ⟨G, k, none⟩ u) g base l := by
  obtain ⟨vs, h1, h2, h3⟩ := h
  refine ⟨vs, (Below.heap_setCell w ⟨G, k, none⟩ u g (fun e => hne e.symm)).trans h1, h2, fun j x hk => ?_⟩
  obtain ⟨v, h4, h5⟩ := h3 j x hk
  exact ⟨v, h4, h5.away u hG⟩
theorem Ws.set_ (h : Ws w g base l) {t : Nat} {v : Value} {x : List Int} (hx : OwI w base v x) (hg : g < base) (ht : t < l.length) : Ws (w.setCell ⟨g, t, none⟩ v) g base (l.set t x) := by
  obtain ⟨vs, h1, h2, h3⟩ := h
  refine ⟨vs.set t v, by simp [World.setCell, Array.getElem?_modify, h1], by simp [h2], fun j y hk => ?_⟩
  by_cases e : t = j
  · subst e
    rw [List.getElem?_set_self ht] at hk
    injection hk with hk
    subst hk
    exact ⟨v, by rw [List.getElem?_set_self (by omega)], hx.away v hg⟩
  · rw [List.getElem?_set_ne e] at hk
    obtain ⟨u, h4, h5⟩ := h3 j y hk
    exact ⟨u, by rw [List.getElem?_set_ne e]; exact h4, h5.away v hg⟩
theorem Ws.lower {b' : Nat} (h : Ws w g base l) (hb : b' ≤ base) : Ws w g b' l := by
  obtain ⟨vs, h1, h2, h3⟩ := h
  refine ⟨vs, h1, h2, fun j x hk => ?_⟩
  obtain ⟨v, h4, h5⟩ := h3 j x hk
  exact ⟨v, h4, own_base h5 hb⟩
theorem Ws.frozen (h : Ws w g base l) (k : Nat) : w.frozen? ⟨g, k, none⟩ = false := by
  obtain ⟨vs, h1, _⟩ := h
  simp [World.frozen?, h1]
theorem Ws.cell (h : Ws w g base l) {k : Nat} (hk : k < l.length) : ∃ v, w.cell? ⟨g, k, none⟩ = some v ∧ Hid (∃ x, l[k]? = some x ∧ OwI w base v x) := by
  obtain ⟨vs, h1, h2, h3⟩ := h
  obtain ⟨v, h4, h5⟩ := h3 k _ (List.getElem?_eq_getElem hk)
  refine ⟨v, ?_, _, List.getElem?_eq_getElem hk, h5⟩
  rw [cell_of_row w g k _ 36 (0, 0) h1]
  simpa using h4
theorem BlkB.away {cs : List Bool} (h : BlkB w g cs) {G k : Nat} (u : Value) (hne : G ≠ g) : BlkB (w.setCell ⟨G, k, none⟩ u) g cs :=
  (Below.heap_setCell w ⟨G, k, none⟩ u g (fun e => hne e.symm)).trans h
end
theorem words_info : (Try.prog.info? 36).map (fun i => (i.zero, i.size, i.bytes)) = some (some (.slice none 0 0), 1, 24) := by kernel_rfl
/-- make([][]int, n): a block of empty words. -/
theorem wpList_make_words (w : World) {ops : Array Oper} {rest : List Oper} {o : Oper} {a : Act} {Q : Exit → Act → World → Prop}
    (hg : o.guard = none) (l c : Operand) (hop : o.op = Op.makeSlice 29 l c) (L : Int) (n : Nat) (hl : a.eval l = .int .i64 L) (hc : a.eval c = .int .i64 L) (hL : L = (n : Int)) (hn : n ≤ 65537)
    (hK : ∀ w', Hid (∀ base, Ws w' w.heap.size base (List.replicate n [])) → Below w.heap.size w w' → w'.heap.size = w.heap.size + 1 → wpList Try.prog ops Q rest (a.put o.dst (.slice (some ⟨w.heap.size, 0, none⟩) n n)) w') :
    wpList Try.prog ops Q (o :: rest) a w := by
  subst hL
  refine wpList_plain hg fun K hK' => ?_
  have hrun := run_make_row' (P := Try.prog) 29 36 (.slice none 0 0) 24 Try.underlying29 words_info rfl .i64 .i64 n (by omega) (by omega) w
  unfold Oper.wp
  simp [execOp, hop, hl, hc, hrun, Result.andThen]
  refine hK' _ _ (hK _ ?_ ((Below.refl _ _).alloc (Nat.le_refl _) _) (by simp))
  intro base
  refine ⟨List.replicate n (.slice none 0 0), ?_, by simp, fun k x hk => ?_⟩
  · rw [heap_alloc_new]
    have e := toList_madeCells_one (.slice none 0 0) n
    have e2 : madeCells #[.slice none 0 0] n = (List.replicate n (Value.slice none 0 0)).toArray := by
      rw [← Array.toList_inj, e]
    rw [e2]
  · rw [List.getElem?_replicate] at hk
    split at hk
    · rename_i hkn
      injection hk with hk
      subst hk
      exact ⟨_, by rw [List.getElem?_replicate, if_pos hkn], OwI.nil_ _ _⟩
    · cases hk
theorem own_formI {w : World} {base k : Nat} {v : Value} {xs : List Value} (h : w.ownsRow base 3 1 v k xs) : ∃ A c, v = .slice A k c ∧ k ≤ c := by
  rcases h.2 with ⟨rfl, h0⟩ | ⟨g, cap, cur, rfl, _, _, hc, _⟩
  · exact ⟨none, 0, by rw [h0], by omega⟩
  · exact ⟨_, _, rfl, hc⟩
/-- What Paths hands back. -/
def Pths (w : World) (m : Ma) (s : Int) (e : Ending) (w' : World) : Prop := ∃ (g1 g2 n base : Nat) (l : List (List Int)) (is : List Bool), e = .returned (.tuple #[.slice (some ⟨g1, 0, none⟩) n n, .slice (some ⟨g2, 0, none⟩) n n]) ∧ Hid (n = m.r.length) ∧ Hid (Ws w' g1 base l) ∧ Hid (BlkB w' g2 is) ∧ Hid (∃ x, Mc.PT m s x l is ∧ m.r.length ≤ x.length) ∧ Hid (w.heap.size ≤ g1 ∧ g1 < base ∧ w.heap.size ≤ g2 ∧ g2 < base ∧ g1 ≠ g2) ∧ Below w.heap.size w w'
set_option maxRecDepth 100000 in
set_option maxHeartbeats 4000000 in
theorem paths_any (m : Ma) (s : Int) (A : Option Addr) (c : Nat) (w : World) (v : Mc.Val m) (hr : RdR w A m.r) (hs : 0 ≤ s ∧ s < m.r.length) :
    Calls Try.prog 21 #[.agg #[.int .i64 m.i, .int .i64 m.o, .slice A m.r.length c], .int .i64 s] w (Pths w m s) := by
  have h1 := v.i1
  have h2 := v.r1
  have h3 := v.i0
  have CA := fun ws W n d wr h1 h2 h3 h4 h5 => rafter_any m A c v ws s W n d wr h1 h2 (Or.inr hs) h3 h4 h5
  have HS0 := Lib.hid (Mc.PT.start v.i0 s)
  have HV := Lib.hid v
  have HF := Lib.hid (fun x => Mc.far_lt (w := x) v.i0)
  obtain ⟨P0, hP0⟩ : ∃ P0, Pths w m s = P0 := ⟨_, rfl⟩
  have HP0 := Lib.hid hP0
  rw [hP0]
  clear v hP0
  obtain ⟨i, o, rs⟩ := m
  simp only at hr h1 h2 h3 CA HS0 ⊢
  go_enter Try.func21, Try.ntmps21
  go_wp2_with (refine wpList_make_words _ rfl _ _ rfl _ rs.length rfl rfl rfl (by omega) ?_)
  intro w1 hW1 hb1 hz1
  have hb2 : Below (w.heap.size + 1) (boxM w i o A rs.length c) w1 := hb1.mono (by simp)
  obtain ⟨b0, b1, b2⟩ := box_cells hb2
  have esz : (boxM w i o A rs.length c).heap.size = w.heap.size + 1 := by simp
  clear esz
  go_wp2_with (refine wpList_make_bools _ rfl _ _ rfl _ rs.length rfl rfl rfl (by omega) ?_)
  intro w2 hB2 hb3
  have hz2 := hb3.size
  have hb4 : Below (w.heap.size + 1) (boxM w i o A rs.length c) w2 := hb2.trans (hb3.mono (by omega))
  obtain ⟨c0, c1, c2⟩ := box_cells hb4
  have hl2 := hB2.out.lt
  have hW2 := Lib.hid (fun base => (hW1.out base).below (by rw [hz1]; exact hb3))
  obtain ⟨g1, hg1⟩ : ∃ g1, w.heap.size + 1 = g1 := ⟨_, rfl⟩
  obtain ⟨g2, hg2⟩ : ∃ g2, g1 + 1 = g2 := ⟨_, rfl⟩
  rw [hg1, hg2] at hB2 hl2
  rw [hg1] at hW2
  try rw [hg1]
  try rw [hg2]
  have hw3 := own_emptyI w2 (g2 + 1) (by omega)
  have hb5 := hb4.alloc (by omega) (.cells #[] 3)
  have hW3 := Lib.hid ((hW2.out (g2 + 1)).below ((Below.refl w2.heap.size w2).alloc (Nat.le_refl _) (.cells #[] 3)))
  have hB3 := Lib.hid (hB2.out.below ((Below.refl w2.heap.size w2).alloc (Nat.le_refl _) (.cells #[] 3)) hl2)
  clear b0 b1 b2 hW1 hb1 hb2 hB2 hb3 hb4 hW2
  go_wp2
  go_loopg [8] (Mc.far ⟨i, o, rs⟩ []) (fun k v wr => ∃ (x : List Int) (l : List (List Int)) (is : List Bool) (B : Option Addr) (d : Nat), v = .slice B x.length d ∧ x.length ≤ rs.length + 1 ∧ x.length ≤ d ∧ k = Mc.far ⟨i, o, rs⟩ x ∧ Hid (OwI wr (g2 + 1) (.slice B x.length d) x) ∧ Hid (Ws wr g1 (g2 + 1) l) ∧ Hid (BlkB wr g2 is) ∧ Hid (Mc.PT ⟨i, o, rs⟩ s x l is) ∧ g2 + 1 ≤ wr.heap.size ∧ Below (w.heap.size + 1) (boxM w i o A rs.length c) wr)
  case atStart => exact ⟨[], _, _, _, 0, rfl, Nat.zero_le _, Nat.zero_le _, rfl, hw3, hW3, hB3, HS0, by simp; omega, hb5⟩
  case round =>
    clear hw3 hW3 hB3 HS0 hb5 hl2 hz1 hz2 c0 c1 c2
    obtain ⟨x, l, is, B, d, rfl, hx1, hxd, hgk, hO, hW, hB, hP, hsz, hbr⟩ := hrel
    obtain ⟨b0, b1, b2⟩ := box_cells hbr
    obtain ⟨nx, hnx⟩ : ∃ nx, x.length = nx := ⟨_, rfl⟩
    have HX := Lib.hid hnx
    rw [hnx] at hx1 hxd hO ⊢
    by_cases hlt : nx < rs.length
    · have hrx := hr.below (box_below hbr)
      have hdx : Rd wr B x := Rd.of_own (n := nx) (by have := hO.out; unfold OwI at this; rw [HX.out] at this; exact this)
      have CA1 := CA x B nx d wr hrx hdx hP.out.vw hnx hxd
      have hT := Lib.hid (Mc.aft_st HV.out x s (Or.inr hs) hP.out.vw)
      clear hnx
      go_wp2_with fail
      refine CA1.mono ?_
      rintro e w4 ⟨rfl, hb4⟩
      have hO4 : Hid (OwI w4 (g2 + 1) (.slice B nx d) x) := own_below hO.out hb4
      have hW4 := Lib.hid (hW.out.below hb4)
      have hB4 := Lib.hid (hB.out.below hb4 hB.out.lt)
      have hbr4 := hbr.trans (hb4.mono (by omega))
      have hsz4 := hb4.size
      have hs4 : g2 + 1 ≤ w4.heap.size := by omega
      clear hO hW hB hbr b0 b1 b2 hrx hdx CA1
      obtain ⟨b0, b1, b2⟩ := box_cells hbr4
      obtain ⟨tt, htt⟩ : ∃ tt, Mc.aft ⟨i, o, rs⟩ s x = tt := ⟨_, rfl⟩
      have HT := Lib.hid htt
      rw [htt] at hT ⊢
      clear htt hb4 hsz4 hsz
      rcases hT.out with h0 | ⟨h0, h5⟩
      · subst h0
        go_wp2_with fail
        refine (rnext_any B nx d x i _ (Rd.of_own (n := nx) (by have := hO4.out; unfold OwI at this; rw [HX.out] at this; exact this)) HX.out h3 (by omega) (by omega) hP.out.vw).mono ?_
        rintro e w9 ⟨V, rfl, hV, hb9⟩
        have HP9 := Lib.hid (hP.out.skip h3 (fun q hq => by rw [HT.out] at hq; omega))
        have hV9 := Lib.hid (own_base hV.out hs4)
        have hW9 := Lib.hid (hW4.out.below hb9)
        have hB9 := Lib.hid (hB4.out.below hb9 hB4.out.lt)
        have hz9 := hb9.size
        have hbr9 := hbr4.trans (hb9.mono (by omega))
        have hs9 : g2 + 1 ≤ w9.heap.size := by omega
        obtain ⟨B9, d9, hv9, hd9⟩ := own_formI hV9.out
        subst hv9
        obtain ⟨_, _, hl1, hl2⟩ := M.next_val h3 _ x rfl hP.out.vw
        have hF9 := Lib.hid (HF.out x hP.out.vw (by rw [HX.out]; exact hlt))
        go_wp2
        go_roundg (Mc.far ⟨i, o, rs⟩ (M.next i x))
        case measure => rw [hgk]; exact hF9.out
        case rel => exact ⟨M.next i x, _, _, B9, d9, rfl, (by have := HX.out; omega), hd9, rfl, hV9.out, hW9, hB9, HP9, hs9, hbr9⟩
      · obtain ⟨t, rfl⟩ := Int.eq_ofNat_of_zero_le h0
        have htl : t < rs.length := by have h6 : (t : Int) < rs.length := h5; omega
        obtain ⟨z, hc, hf, hz⟩ := hB4.out.at_ (k := t) (by rw [hP.out.li]; exact htl)
        cases z with
        | true =>
          go_wp2_with fail
          refine (rnext_any B nx d x i _ (Rd.of_own (n := nx) (by have := hO4.out; unfold OwI at this; rw [HX.out] at this; exact this)) HX.out h3 (by omega) (by omega) hP.out.vw).mono ?_
          rintro e w9 ⟨V, rfl, hV, hb9⟩
          have HP9 := Lib.hid (hP.out.skip h3 (fun q hq => by rw [HT.out] at hq; have e : q = t := (by omega); rw [e, hz.out]; simp))
          have hV9 := Lib.hid (own_base hV.out hs4)
          have hW9 := Lib.hid (hW4.out.below hb9)
          have hB9 := Lib.hid (hB4.out.below hb9 hB4.out.lt)
          have hz9 := hb9.size
          have hbr9 := hbr4.trans (hb9.mono (by omega))
          have hs9 : g2 + 1 ≤ w9.heap.size := by omega
          obtain ⟨B9, d9, hv9, hd9⟩ := own_formI hV9.out
          subst hv9
          obtain ⟨_, _, hl1, hl2⟩ := M.next_val h3 _ x rfl hP.out.vw
          have hF9 := Lib.hid (HF.out x hP.out.vw (by rw [HX.out]; exact hlt))
          go_wp2
          go_roundg (Mc.far ⟨i, o, rs⟩ (M.next i x))
          case measure => rw [hgk]; exact hF9.out
          case rel => exact ⟨M.next i x, _, _, B9, d9, rfl, (by have := HX.out; omega), hd9, rfl, hV9.out, hW9, hB9, HP9, hs9, hbr9⟩
        | false =>
          have hf2 := hW4.out.frozen t
          obtain ⟨u, hc2, _⟩ := hW4.out.cell (k := t) (by rw [hP.out.ll]; exact htl)
          have hg12 : g1 ≠ g2 := by omega
          have hB5 := Lib.hid ((hB4.out.set_ t true).away (k := t) (.slice B nx d) hg12)
          have hW5 := Lib.hid ((hW4.out.away (k := t) (.bool true) (by omega : g2 < g2 + 1) (fun e => hg12 e.symm)).set_ (t := t) (hO4.out.away (k := t) (.bool true) (by omega : g2 < g2 + 1)) (by omega) (by rw [hP.out.ll]; exact htl))
          have hO5 := Lib.hid ((hO4.out.away (k := t) (.bool true) (by omega : g2 < g2 + 1)).away (G := g1) (k := t) (.slice B nx d) (by omega))
          have hbr5 := (hbr4.setCell (p := ⟨g2, t, none⟩) (by show w.heap.size + 1 ≤ g2; omega) (.bool true)).setCell (p := ⟨g1, t, none⟩) (by show w.heap.size + 1 ≤ g1; omega) (.slice B nx d)
          have hs5 : g2 + 1 ≤ ((w4.setCell ⟨g2, t, none⟩ (.bool true)).setCell ⟨g1, t, none⟩ (.slice B nx d)).heap.size := by simpa [World.setCell] using hs4
          go_wp2_with fail
          refine (rnext_any B nx d x i _ (Rd.of_own (n := nx) (by have := hO5.out; unfold OwI at this; rw [HX.out] at this; exact this)) HX.out h3 (by omega) (by omega) hP.out.vw).mono ?_
          rintro e w9 ⟨V, rfl, hV, hb9⟩
          have HP9 := Lib.hid (hP.out.hit h3 HT.out hz.out)
          have hV9 := Lib.hid (own_base hV.out hs5)
          have hW9 := Lib.hid (hW5.out.below hb9)
          have hB9 := Lib.hid (hB5.out.below hb9 hB5.out.lt)
          have hz9 := hb9.size
          have hbr9 := hbr5.trans (hb9.mono (by omega))
          have hs9 : g2 + 1 ≤ w9.heap.size := by omega
          obtain ⟨B9, d9, hv9, hd9⟩ := own_formI hV9.out
          subst hv9
          obtain ⟨_, _, hl1, hl2⟩ := M.next_val h3 _ x rfl hP.out.vw
          have hF9 := Lib.hid (HF.out x hP.out.vw (by rw [HX.out]; exact hlt))
          go_wp2
          go_roundg (Mc.far ⟨i, o, rs⟩ (M.next i x))
          case measure => rw [hgk]; exact hF9.out
          case rel => exact ⟨M.next i x, _, _, B9, d9, rfl, (by have := HX.out; omega), hd9, rfl, hV9.out, hW9, hB9, HP9, hs9, hbr9⟩
    · have hge : rs.length ≤ x.length := by rw [hnx]; omega
      have HG := Lib.hid hge
      clear hnx hge
      go_wp2
      rw [← HP0.out]
      exact ⟨g1, g2, rs.length, g2 + 1, l, is, rfl, rfl, hW, hB, ⟨x, hP.out, HG.out⟩, ⟨by omega, by omega, by omega, by omega, by omega⟩, box_below hbr⟩
end Go.Proofs.Ytldpfbmkmehadaa
