/-
  Contracts: lists of words out of maps: gather, Sort, Prefixes. No statement is proved here.
-/
import Derived.Test.YtjodhihcckcefaaU7
namespace Go.Proofs.Ytjodhihcckcefaa
open Go.RowKit Go.Maps

/-! ### Lists of words in new memory -/
/-- A word of a call's own, without spare room. -/
def OwX (w : World) (base : Nat) (v : Value) (x : List Int) : Prop := ∃ g, v = .slice (some ⟨g, 0, none⟩) x.length x.length ∧ base ≤ g ∧ Blk w g x
theorem OwX.below {w w' : World} {base : Nat} {v : Value} {x : List Int} (h : OwX w base v x) (hb : Below w.heap.size w w') : OwX w' base v x := by
  obtain ⟨g, h1, h2, h3⟩ := h
  exact ⟨g, h1, h2, h3.below hb h3.lt⟩
theorem OwX.away {w : World} {base : Nat} {v : Value} {x : List Int} (h : OwX w base v x) {G k : Nat} (u : Value) (hG : G < base) : OwX (w.setCell ⟨G, k, none⟩ u) base v x := by
  obtain ⟨g, h1, h2, h3⟩ := h
  exact ⟨g, h1, h2, (Below.heap_setCell w ⟨G, k, none⟩ u g (fun e => by simp at e; omega)).trans h3⟩
/-- Block g has n words' places; the first ones hold l. -/
def Wx (w : World) (g base n : Nat) (l : List (List Int)) : Prop := ∃ vs : List Value, w.heap[g]? = some (.cells vs.toArray 23 (0, 0)) ∧ vs.length = n ∧ ∀ (k : Nat) (x : List Int), l[k]? = some x → ∃ v, vs[k]? = some v ∧ OwX w base v x
section
variable {w w' : World} {g base n : Nat} {l : List (List Int)}
theorem Wx.lt (h : Wx w g base n l) : g < w.heap.size := by
  obtain ⟨vs, h1, _⟩ := h
  exact (Array.getElem?_eq_some_iff.1 h1).1
theorem Wx.below (h : Wx w g base n l) (hb : Below w.heap.size w w') : Wx w' g base n l := by
  have hl := h.lt
  obtain ⟨vs, h1, h2, h3⟩ := h
  refine ⟨vs, (hb.block g hl).trans h1, h2, fun k x hk => ?_⟩
  obtain ⟨v, h4, h5⟩ := h3 k x hk
  exact ⟨v, h4, h5.below hb⟩
theorem Wx.set_ (h : Wx w g base n l) {v : Value} {x : List Int} (hx : OwX w base v x) (hg : g < base) (ht : l.length < n) : Wx (w.setCell ⟨g, l.length, none⟩ v) g base n (l ++ [x]) := by
  obtain ⟨vs, h1, h2, h3⟩ := h
  refine ⟨vs.set l.length v, by simp [World.setCell, Array.getElem?_modify, h1], by simp [h2], fun j y hk => ?_⟩
  rcases Nat.lt_trichotomy j l.length with hj | hj | hj
  · rw [List.getElem?_append_left hj] at hk
    obtain ⟨v', h4, h5⟩ := h3 j y hk
    exact ⟨v', by rw [List.getElem?_set_ne (by omega)]; exact h4, h5.away v hg⟩
  · subst hj
    rw [List.getElem?_append_right (Nat.le_refl _)] at hk
    simp at hk
    subst hk
    exact ⟨v, by rw [List.getElem?_set_self (by omega)], hx.away v hg⟩
  · rw [List.getElem?_eq_none (by simp; omega)] at hk
    cases hk
theorem Wx.at_ (h : Wx w g base n l) {k : Nat} (hk : k < n) : ∃ v, w.cell? ⟨g, k, none⟩ = some v ∧ w.frozen? ⟨g, k, none⟩ = false := by
  obtain ⟨vs, h1, h2, h3⟩ := h
  refine ⟨vs[k]'(by omega), ?_, by simp [World.frozen?, h1]⟩
  rw [cell_of_row w g k _ 23 (0, 0) h1]
  simp [h2, hk]
end
/-- A slice over A reads as a list of words, each without spare room. -/
def RdX (w : World) (A : Option Addr) (l : List (List Int)) : Prop :=
  0 < l.length → ∃ b off, A = some ⟨b, off, none⟩ ∧ b < w.heap.size ∧ ∀ k, k < l.length → ∃ B, w.cell? ⟨b, off + k, none⟩ = some (.slice B (M.row l k).length (M.row l k).length) ∧ Rd w B (M.row l k)
theorem RdX.below {w w' : World} {A : Option Addr} {l : List (List Int)} (h : RdX w A l) (hb : Below w.heap.size w w') : RdX w' A l := fun hp => by
  obtain ⟨b, off, e, hl, hc⟩ := h hp
  refine ⟨b, off, e, by have := hb.size; omega, fun k hk => ?_⟩
  obtain ⟨B, h1, h2⟩ := hc k hk
  exact ⟨B, ((bcell hb).1 _ _ hl).trans h1, h2.below hb⟩
theorem RdX.rds {w : World} {A : Option Addr} {l : List (List Int)} (h : RdX w A l) : RdS w A l := fun hp => by
  obtain ⟨b, off, e, hl, hc⟩ := h hp
  refine ⟨b, off, e, hl, fun k hk => ?_⟩
  obtain ⟨B, h1, h2⟩ := hc k hk
  exact ⟨B, _, h1, h2⟩
theorem RdX.nil_ {w : World} {A : Option Addr} : RdX w A [] := fun h => absurd h (by simp)
theorem Wx.rdx {w : World} {g base n : Nat} {l : List (List Int)} (h : Wx w g base n l) : RdX w (some ⟨g, 0, none⟩) l := fun _ => by
  have hl := h.lt
  obtain ⟨vs, h1, h2, h3⟩ := h
  refine ⟨g, 0, rfl, hl, fun k hk => ?_⟩
  obtain ⟨v, h4, g', h5, _, h6⟩ := h3 k _ (M.row_at hk)
  refine ⟨some ⟨g', 0, none⟩, ?_, h6.rd⟩
  rw [Nat.zero_add, cell_of_row w g k _ 23 (0, 0) h1]
  simp [h4, h5]
theorem words_info : (Try.prog.info? 23).map (fun i => (i.zero, i.size, i.bytes)) = some (some (.slice none 0 0), 1, 24) := by kernel_rfl
/-- make([][]int, n). -/
theorem wpList_make_wx (w : World) {ops : Array Oper} {rest : List Oper} {o : Oper} {a : Act} {Q : Exit → Act → World → Prop}
    (hg : o.guard = none) (l c : Operand) (hop : o.op = Op.makeSlice 22 l c) (L : Int) (n : Nat) (hl : a.eval l = .int .i64 L) (hc : a.eval c = .int .i64 L) (hL : L = (n : Int)) (hn : n ≤ 65537)
    (hK : ∀ w', Hid (∀ base, Wx w' w.heap.size base n []) → Below w.heap.size w w' → w'.heap.size = w.heap.size + 1 → wpList Try.prog ops Q rest (a.put o.dst (.slice (some ⟨w.heap.size, 0, none⟩) n n)) w') :
    wpList Try.prog ops Q (o :: rest) a w := by
  subst hL
  refine wpList_plain hg fun K hK' => ?_
  have hrun := run_make_row' (P := Try.prog) 22 23 (.slice none 0 0) 24 Try.underlying22 words_info rfl .i64 .i64 n (by omega) (by omega) w
  unfold Oper.wp
  simp [execOp, hop, hl, hc, hrun, Result.andThen]
  refine hK' _ _ (hK _ ?_ ((Below.refl _ _).alloc (Nat.le_refl _) _) (by simp))
  intro base
  refine ⟨List.replicate n (.slice none 0 0), ?_, by simp, fun k x hk => by simp at hk⟩
  rw [heap_alloc_new]
  have e := toList_madeCells_one (.slice none 0 0) n
  have e2 : madeCells #[.slice none 0 0] n = (List.replicate n (Value.slice none 0 0)).toArray := by
    rw [← Array.toList_inj, e]
  rw [e2]
/-- What hands back a list and an error. -/
def Lst (w : World) (l : List (List Int)) (R : Int) (e : Ending) (w' : World) : Prop := ∃ A q, e = .returned (.tuple #[.slice A q q, .int .i64 R]) ∧ q = l.length ∧ RdX w' A l ∧ Below w.heap.size w w'
theorem Lst.no {w w' : World} {R : Int} (hb : Below w.heap.size w w') : Lst w [] R (.returned (.tuple #[.slice none 0 0, .int .i64 R])) w' := ⟨none, 0, rfl, rfl, RdX.nil_, hb⟩
/-- Only what was valid is handed back. -/
def okL (R : Int) (l : List (List Int)) : List (List Int) := if R = 0 then l else []
theorem Sz.of_asc {f : Wf} {S : List (List Int)} (hS : M.asc S) (hmem : ∀ x, x ∈ S ↔ (f x).isSome = true) (hby : ∀ x, (f x).isSome = true → M.By x) : Sz f S.length := by
  refine ⟨S.map M.kU, ?_, fun s => ?_, by simp⟩
  · rw [List.nodup_iff_pairwise_ne, List.pairwise_map]
    refine List.Pairwise.imp_of_mem (fun {x y} hx hy (hne : x ≠ y) e => hne ?_) (M.asc_nodup hS)
    exact M.kU_inj (hby _ ((hmem x).1 hx)) (hby _ ((hmem y).1 hy)) e
  · rw [List.mem_map]
    constructor
    · rintro ⟨x, hx, rfl⟩
      rw [M.uW_kU (hby _ ((hmem x).1 hx))]
      exact (hmem x).1 hx
    · intro h
      exact ⟨M.uW s, (hmem _).2 h, M.kU_uW s⟩
theorem take_mapU {ks : List (List UInt8)} {k : Nat} {s : List UInt8} (h : ks[k]? = some s) : (ks.take (k + 1)).map M.uW = (ks.take k).map M.uW ++ [M.uW s] := by
  rw [List.take_add_one, h]
  simp
set_option maxRecDepth 100000 in
set_option maxHeartbeats 2000000 in
theorem gather_any (b n : Nat) (f : Wf) (S : List (List Int)) (nn R : Int) (w : World) (hM : Mp w b n f) (hn : n ≤ 1001001001) (hS : M.asc S) (hmem : ∀ x, x ∈ S ↔ (f x).isSome = true) (hR : (R = 0 ∧ M.Lv S nn) ∨ (R = 3 ∧ ¬ M.Lv S nn)) :
    Calls Try.prog 56 #[.map (some b), .int .i64 nn] w (Lst w (okL R S) R) := by
  have hby : ∀ x, (f x).isSome = true → M.By x := by
    obtain ⟨D, _, h2⟩ := hM
    exact fun x hx => (h2.by_ x hx).1
  have hN := Sz.of_asc hS hmem hby
  obtain ⟨N, hNe⟩ : ∃ N, S.length = N := ⟨_, rfl⟩
  rw [hNe] at hN
  have HS := Lib.hid (And.intro hS hmem)
  have HN := Lib.hid hN
  have HM := Lib.hid hM
  have HE := Lib.hid hNe
  have HR := Lib.hid hR
  clear hS hmem hN hM hby hR hNe
  by_cases hbig : 4096 < N
  · obtain rfl : R = 3 := by
      rcases HR.out with ⟨_, h⟩ | ⟨h, _⟩
      · have := h.len; have := HE.out; omega
      · exact h
    have h1 : decide ((4096 : Int) < N) = true := decide_eq_true (by omega)
    have h1' : (4096 : Int) < N := by omega
    have hoL : okL 3 S = [] := by unfold okL; rw [if_neg (by decide)]
    rw [hoL]
    clear hoL
    go_enter Try.func56, Try.ntmps56
    go_wp2_with (first
      | (refine wpList_mlen _ rfl _ rfl b n f rfl HM.out N HN.out ?_)
      | fail)
    go_ret2
    exact Lst.no (Below.refl _ _)
  · have h1 : decide ((4096 : Int) < N) = false := decide_eq_false (by omega)
    have h1' : ¬ (4096 : Int) < N := by omega
    have hN4 : N ≤ 4096 := by omega
    go_enter Try.func56, Try.ntmps56
    go_wp2_with (first
      | (refine wpList_mlen _ rfl _ rfl b n f rfl HM.out N HN.out ?_)
      | (refine wpList_make_wx _ rfl _ _ rfl _ N rfl rfl rfl (by omega) ?_; intro w1 hW1 hb1 hz1)
      | fail)
    have hlt := HM.out.lt
    refine (ordered_any b n N f w1 (HM.out.mv hb1 hlt) HN.out hn (by omega)).mono ?_
    rintro e w2 ⟨A, c, ks, rfl, hkl, hko, hkr, hb2⟩
    have s1 : Hid (Wx w2 w.heap.size (w.heap.size + 1) N ((ks.take 0).map M.uW)) := (hW1.out _).below hb2
    have b1 := Lib.hid (below_next hb1 hb2)
    have HK := Lib.hid (And.intro hkl (And.intro hko hkr))
    have hz2 := hb2.size
    clear hkl hko hkr hb1 hb2 hW1
    clear h1 h1'
    go_wp2
    go_loopw [18] (fun v wr => ∃ k : Nat, k ≤ N ∧ v = .int .i64 k ∧ Hid (Wx wr w.heap.size (w.heap.size + 1) N ((ks.take k).map M.uW)) ∧ Hid (Below w.heap.size w wr) ∧ Hid (RdT wr (w.heap.size + 1) A ks) ∧ w.heap.size + 1 ≤ wr.heap.size) (fun v _ => N - (intOf v).toNat)
    case atStart => exact ⟨0, Nat.zero_le _, rfl, s1.out, b1.out, HK.out.2.2.lower (by omega), by omega⟩
    case round =>
      clear s1 b1 hz2 hz1
      obtain ⟨k, hk, rfl, hW, hb, hT, hzr⟩ := hrel
      by_cases hlt2 : k < N
      · have hkl : k < ks.length := by rw [HK.out.1]; exact hlt2
        obtain ⟨s, hs⟩ : ∃ s, ks[k]? = some s := ⟨_, List.getElem?_eq_getElem hkl⟩
        obtain ⟨bt, off, rfl, hBt, hbt, hct⟩ := hT.out (by omega)
        have hc := hct k s hs
        have hsl := HK.out.2.1.len s (List.mem_of_getElem? hs)
        have hss : (⟨s.toArray⟩ : ByteArray).size = s.length := by simp [ByteArray.size]
        have CW := Lib.hid (word_any ⟨s.toArray⟩ (M.uW s) wr (by simp) (by omega))
        have HSS := Lib.hid (take_mapU hs)
        obtain ⟨sv, hsv⟩ : ∃ sv, (⟨s.toArray⟩ : ByteArray) = sv := ⟨_, rfl⟩
        change wr.cell? _ = some (.string ⟨s.toArray⟩) at hc
        rw [hsv] at hc CW
        clear hct hs hss hsv
        go_wp2_with fail
        refine CW.out.mono ?_
        rintro e w3 ⟨g, hg1, rfl, hg2, hb3⟩
        have hz3 := hb3.size
        have hWl : ((ks.take k).map M.uW).length = k := by simp; omega
        have hox : OwX w3 (w.heap.size + 1) (.slice (some ⟨g, 0, none⟩) (M.uW s).length (M.uW s).length) (M.uW s) := ⟨g, rfl, by omega, hg2⟩
        have hW3 := hW.out.below hb3
        obtain ⟨cv, hcv, hfz⟩ := hW3.at_ hlt2
        have hW4 := hW3.set_ hox (by omega) (by rw [hWl]; exact hlt2)
        rw [hWl, ← HSS.out] at hW4
        have HW4 := Lib.hid hW4
        have HB4 := Lib.hid ((below_next hb.out hb3).setCell (p := ⟨w.heap.size, k, none⟩) (by show w.heap.size ≤ w.heap.size; omega) (.slice (some ⟨g, 0, none⟩) (M.uW s).length (M.uW s).length))
        have HT4 := Lib.hid ((hT.out.below hb3).away (G := w.heap.size) (k := k) (.slice (some ⟨g, 0, none⟩) (M.uW s).length (M.uW s).length) (by omega))
        obtain ⟨q, hq⟩ : ∃ q, (M.uW s).length = q := ⟨_, rfl⟩
        rw [hq] at HW4 HB4 HT4 ⊢
        clear hW hb hT hox hW3 hW4 hg2 hb3 hc hq hsl
        go_wp2
        go_roundw
        case rel => exact ⟨k + 1, by omega, by go_num, HW4, HB4, HT4, by simp; omega⟩
        case measure => simp [intOf]; omega
      · obtain rfl : k = N := by omega
        have hall : (ks.take k).map M.uW = ks.map M.uW := by rw [List.take_of_length_le (by rw [HK.out.1]; omega)]
        have hSe : ks.map M.uW = S := M.asc_uniq HK.out.2.1.asc HS.out.1 fun x => by rw [HK.out.2.1.mem, HS.out.2]
        have hX := hW.out.rdx
        rw [hall, hSe] at hX
        have HX := Lib.hid hX
        have HL := Lib.hid (limited_any (some ⟨w.heap.size, 0, none⟩) k k S nn wr hX.rds HE.out (by omega) R HR.out)
        clear hall hSe hX hW hT
        go_wp2_with fail
        refine HL.out.mono ?_
        rintro e w3 ⟨rfl, hb3⟩
        have HB := Lib.hid (below_next hb.out hb3)
        have HX3 := Lib.hid (HX.out.below hb3)
        clear hb hb3 HX HL
        rcases HR.out with ⟨rfl, _⟩ | ⟨rfl, _⟩
        · go_wp2
          go_ret2
          refine ⟨_, k, rfl, ?_, ?_, HB.out⟩
          · unfold okL; rw [if_pos rfl, HE.out]
          · unfold okL; rw [if_pos rfl]; exact HX3.out
        · have hoL : okL 3 S = [] := by unfold okL; rw [if_neg (by decide)]
          rw [hoL]
          clear hoL
          go_wp2
          go_ret2
          exact Lst.no HB.out
end Go.Proofs.Ytjodhihcckcefaa
