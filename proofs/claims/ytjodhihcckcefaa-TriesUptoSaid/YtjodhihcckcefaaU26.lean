/-
  Contract: Words (walk). No statement is proved here.
-/
import Derived.Test.YtjodhihcckcefaaU25
namespace Go.Proofs.Ytjodhihcckcefaa
open Go.RowKit Go.Maps
attribute [local go_sem] Oper.semAt_some

theorem Wst.ch {w A1 B1 : World} {g0 g1 g2 g3 B N c M : Nat} {I : Int} {A : Option Addr} {l : List (List Int)} (h : Wst w g0 g1 g2 g3 B I A N c l A1) (k : ChT M A1 B1) (hM : w.heap.size ≤ M) : Wst w g0 g1 g2 g3 B I A N c l B1 := by
  obtain ⟨a1, a2, a3, a4, V, a5, a6⟩ := h
  exact ⟨k.below hM a1, a2.ch k (by decide), a3.ch k (by decide), a4.ch k (by decide), V, a5.ch k (by decide), a6.ch k⟩
theorem Wst.below {w A1 B1 : World} {g0 g1 g2 g3 B N c : Nat} {I : Int} {A : Option Addr} {l : List (List Int)} (h : Wst w g0 g1 g2 g3 B I A N c l A1) (k : Below A1.heap.size A1 B1) : Wst w g0 g1 g2 g3 B I A N c l B1 := h.ch (ChT.of_below k (Nat.le_refl _)) h.bel.size
theorem Wst.app {w A1 B1 : World} {g0 g1 g2 g3 B N c : Nat} {I : Int} {A : Option Addr} {l : List (List Int)} {x : List Int} {D : Nat → Obj → Prop} (h : Wst w g0 g1 g2 g3 B I A N c l A1) (k : RgE A1 D g3 B x l B1) (h0 : g0 ≠ g3 ∧ g1 ≠ g3 ∧ g2 ≠ g3) (h1 : g0 < B ∧ g1 < B ∧ g2 < B) (hw : w.heap.size ≤ g3) (hB : w.heap.size ≤ B) : Wst w g0 g1 g2 g3 B I A N c (l ++ [x]) B1 := by
  obtain ⟨k1, k2, k3, k4, k5, k6, V, k7, k8⟩ := k
  obtain ⟨a1, a2, a3, a4, _⟩ := h
  exact ⟨⟨k3.trans a1.os, k4.trans a1.tape, k5.trans a1.output, Nat.le_trans a1.size k6, fun b hb => (k2 b (by omega) (by omega)).trans (a1.block b hb)⟩, (k2 _ h1.1 h0.1).trans a2, (k2 _ h1.2.1 h0.2.1).trans a3, (k2 _ h1.2.2 h0.2.2).trans a4, V, k7, k8⟩
theorem KAo.set1 {D : Nat → Obj → Prop} {W : World} {g : Nat} {T : TypeId} {v : Value} (h : Bx1 W g T v) (hD : ∀ cs fr, D g (.cells cs T fr)) (u : Value) : KAo D W (W.setCell ⟨g, 0, none⟩ u) := by
  refine ⟨by simp, fun b ob hnd hob => ?_⟩
  by_cases e : b = g
  · subst e
    unfold Bx1 at h
    rw [h] at hob
    injection hob with hob
    exact absurd (hob ▸ hD _ _) hnd
  · exact (Below.heap_setCell W ⟨g, 0, none⟩ u b e).trans hob
set_option maxRecDepth 100000 in
set_option maxHeartbeats 4000000 in
theorem twords_any (A : Option Addr) (c N : Nat) (ns : List Nd) (Kz : List (List Int)) (I : Int) (w : World) (h : RdN w A ns) (hN : ns.length = N) (hm : N ≤ 9223372036854775807) (hK : 1 ≤ I → I ≤ 16 → fmB I ns = true → Keyz ns Kz) (R : Int) (hR : wzE I ns Kz = R) :
    Calls Try.prog 44 #[.agg #[.int .i64 I, .slice A N c]] w (Lst w (okL R (enz Kz ns)) R) := by
  obtain ⟨W0, hW0⟩ : ∃ W0, ((w.alloc (.cells #[.int .i64 I, .slice A N c] 56)).alloc (.cells #[.slice none 0 0] 22)).alloc (.cells #[.int .i64 0] 26) = W0 := ⟨_, rfl⟩
  have b0 : Below w.heap.size w W0 := by rw [← hW0]; exact (((Below.refl _ _).alloc (Nat.le_refl _) _).alloc (by simp) _).alloc (by simp; omega) _
  have z0 : W0.heap.size = w.heap.size + 3 := by rw [← hW0]; simp
  have e1 : (w.alloc (.cells #[.int .i64 I, .slice A N c] 56)).heap.size = w.heap.size + 1 := by simp
  have e2 : ((w.alloc (.cells #[.int .i64 I, .slice A N c] 56)).alloc (.cells #[.slice none 0 0] 22)).heap.size = w.heap.size + 1 + 1 := by simp
  have x2 : Bx1 W0 (w.heap.size + 1 + 1) 26 (.int .i64 0) := by
    rw [← hW0]; have := Bx1.new ((w.alloc (.cells #[.int .i64 I, .slice A N c] 56)).alloc (.cells #[.slice none 0 0] 22)) 26 (.int .i64 0)
    rwa [e2] at this
  have x1 : Bx1 W0 (w.heap.size + 1) 22 (.slice none 0 0) := by
    rw [← hW0]; have := Bx1.new (w.alloc (.cells #[.int .i64 I, .slice A N c] 56)) 22 (.slice none 0 0)
    rw [e1] at this
    exact this.below ((Below.refl _ _).alloc (Nat.le_refl _) _)
  have xt : Bx2 W0 w.heap.size 56 (.int .i64 I) (.slice A N c) := by
    rw [← hW0]
    exact ((Bx2.new w 56 (.int .i64 I) (.slice A N c)).below ((Below.refl _ _).alloc (Nat.le_refl _) _)).below ((Below.refl _ _).alloc (Nat.le_refl _) _)
  have hErr : Hid (∀ W', Below w.heap.size w W' → Bx1 W' (w.heap.size + 1) 22 (.slice none 0 0) → Bx1 W' (w.heap.size + 1 + 1) 26 (.int .i64 0) →
      Lst w [] 4 (.returned (.tuple #[.slice none 0 0, .int .i64 4])) ((W'.setCell ⟨w.heap.size + 1, 0, none⟩ (.slice none 0 0)).setCell ⟨w.heap.size + 1 + 1, 0, none⟩ (.int .i64 4)) ∧ Bx1 ((W'.setCell ⟨w.heap.size + 1, 0, none⟩ (.slice none 0 0)).setCell ⟨w.heap.size + 1 + 1, 0, none⟩ (.int .i64 4)) (w.heap.size + 1) 22 (.slice none 0 0) ∧ Bx1 ((W'.setCell ⟨w.heap.size + 1, 0, none⟩ (.slice none 0 0)).setCell ⟨w.heap.size + 1 + 1, 0, none⟩ (.int .i64 4)) (w.heap.size + 1 + 1) 26 (.int .i64 4)) := fun W' hb h1 h2 =>
    ⟨Lst.no ((hb.setCell (p := ⟨w.heap.size + 1, 0, none⟩) (by show w.heap.size ≤ w.heap.size + 1; omega) _).setCell (p := ⟨w.heap.size + 1 + 1, 0, none⟩) (by show w.heap.size ≤ w.heap.size + 1 + 1; omega) _), (h1.set_ _).far (by omega) _, (h2.far (by omega) _).set_ _⟩
  have HH := Lib.hid h
  have HN := Lib.hid hN
  have HK := Lib.hid hK
  have HR := Lib.hid hR
  have X1 := Lib.hid x1
  have X2 := Lib.hid x2
  have XT := Lib.hid xt
  have B0 := Lib.hid b0
  obtain ⟨t0, t1, _, _⟩ := xt.cells
  obtain ⟨u0, u1⟩ := x1.cells
  obtain ⟨v0, v1⟩ := x2.cells
  clear h hN hK hR e1 e2 x1 x2 xt b0
  obtain ⟨mm, _⟩ : ∃ mm : Nat, True := ⟨3, trivial⟩
  refine (callsIn_wide (n := mm)).1 ?_
  refine callsIn_of_wp_marks Try.func44 rfl trivial ?_
  simp only [Try.ntmps44, List.size_toArray, List.length_cons, List.length_nil, Nat.reduceAdd, Nat.reduceSub, Array.replicate_succ, Array.replicate_zero, List.push_toArray, List.append_toArray, List.nil_append, List.cons_append]
  by_cases hI : 1 ≤ I ∧ I ≤ 16
  · gi_wp2_with fail
    refine wide_calls (cinputs_any I _) ?_
    rintro e w2 ⟨rfl, hw2⟩
    obtain rfl : W0 = w2 := hw2.symm
    rw [if_neg (by omega), if_neg (by omega)]
    have CF := Lib.hid (formed_any A c N ns I W0 (HH.out.below B0.out) HN.out hm hI.2)
    obtain ⟨fb, hfb⟩ : ∃ fb, fmB I ns = fb := ⟨_, rfl⟩
    rw [hfb] at CF
    have HFB := Lib.hid hfb
    clear hfb
    gi_wp2_with fail
    refine wide_calls CF.out ?_
    rintro e w3 ⟨rfl, hb3⟩
    have B3 := Lib.hid (below_next B0.out hb3)
    have Y1 := Lib.hid (X1.out.below hb3)
    have Y2 := Lib.hid (X2.out.below hb3)
    have YT := Lib.hid (XT.out.below hb3)
    have z3 := hb3.size
    obtain ⟨t0, t1, _, _⟩ := YT.out.cells
    obtain ⟨u0, u1⟩ := Y1.out.cells
    obtain ⟨v0, v1⟩ := Y2.out.cells
    clear hb3 CF
    cases fb with
    | false =>
      obtain rfl : R = 4 := by rw [← HR.out]; exact wzE_bad (fun h => by have := h.2.2.1; rw [HFB.out] at this; cases this)
      obtain ⟨f1, f2, f3⟩ := hErr.out w3 B3.out Y1.out Y2.out
      have HF := Lib.hid f1
      obtain ⟨r1, _⟩ := f2.cells
      obtain ⟨r2, _⟩ := f3.cells
      rw [okL_err (by decide)]
      clear f1 f2 f3
      gi_wp2_with fail
      refine ⟨.tuple #[.slice none 0 0, .int .i64 4], ?_, HF.out⟩
      simp [results, Try.f44, go_sem, r1, r2]
    | true =>
      have HZ := HK.out hI.1 hI.2 HFB.out
      obtain ⟨hN2, hfm⟩ := fmB_fmr HN.out HFB.out
      have hB4 : Below w3.heap.size w3 (w3.alloc (.cells #[.slice none 0 0] 22)) := (Below.refl _ _).alloc (Nat.le_refl _) _
      have hZ := Bx1.new w3 22 (.slice none 0 0)
      obtain ⟨g3, hg3⟩ : ∃ g3, w3.heap.size = g3 := ⟨_, rfl⟩
      have q0 : (w3.alloc (.cells #[.slice none 0 0] 22)).cell? ⟨w.heap.size, 0, none⟩ = some (.int .i64 I) := (YT.out.below hB4).cells.1
      have q1 : (w3.alloc (.cells #[.slice none 0 0] 22)).cell? ⟨w.heap.size, 1, none⟩ = some (.slice A N c) := (YT.out.below hB4).cells.2.1
      gi_wp2_with fail
      refine wide_calls (twalk_any I A N c _) ?_
      rintro e w5 ⟨rfl, hw5⟩
      obtain ⟨Wl, hWl⟩ : ∃ Wl, (w3.alloc (.cells #[.slice none 0 0] 22)).alloc (.cells #[.int .i64 I, .slice A N c] 56) = Wl := ⟨_, rfl⟩
      rw [hWl] at hw5
      obtain rfl : Wl = w5 := hw5.symm
      gi_wp2_with fail
      have e1 : (w3.alloc (.cells #[.slice none 0 0] 22)).heap.size = g3 + 1 := by simp [hg3]
      have hbl : Below w3.heap.size w3 Wl := by rw [← hWl]; exact hB4.alloc (by simp) _
      have hbw : Below w.heap.size w Wl := below_next B3.out hbl
      have hzl : Wl.heap.size = g3 + 2 := by rw [← hWl]; simp [hg3]
      have hbx : Bx2 Wl (g3 + 1) 56 (.int .i64 I) (.slice A N c) := by
        have := Bx2.new (w3.alloc (.cells #[.slice none 0 0] 22)) 56 (.int .i64 I) (.slice A N c)
        rw [hWl, e1] at this
        exact this
      have hst : Wst w w.heap.size (w.heap.size + 1) (w.heap.size + 1 + 1) g3 (g3 + 2) I A N c (enk (Kz.zip ns) 0) Wl := by
        refine ⟨hbw, YT.out.below hbl, Y1.out.below hbl, Y2.out.below hbl, _, ?_, by rw [enk_zero]; exact OwZ.nil_ _ _⟩
        rw [← hWl, ← hg3]
        exact hZ.below ((Below.refl _ _).alloc (Nat.le_refl _) _)
      have hD : ∀ b o, wsD (w.heap.size + 1) (w.heap.size + 1 + 1) g3 (g3 + 2) b o → o.isCells = true ∧ w.heap.size ≤ b ∧ (b < Wl.heap.size ∨ ∃ cs fr, o = .cells cs 23 fr) ∧ b ≠ g3 + 1 := by
        rintro b o (⟨h1, v, fr, rfl⟩ | ⟨h1, v, fr, rfl⟩ | ⟨h1, v, fr, rfl⟩)
        · exact ⟨rfl, by omega, Or.inl (by omega), by omega⟩
        · exact ⟨rfl, by omega, Or.inl (by omega), by omega⟩
        · exact ⟨rfl, by omega, Or.inr ⟨v, fr, rfl⟩, by omega⟩
      have hG : GivesT (mm - 1) 89 #[.pointer (some ⟨g3 + 1, 0, none⟩)] (Kz.zip ns) (wsD (w.heap.size + 1) (w.heap.size + 1 + 1) g3 (g3 + 2)) Wl :=
        twalk_gives (mm - 1) _ w Wl (g3 + 1) N c I A ns Kz hbw HH.out HN.out hN2 hI.2 hfm HZ hbx (fun b o h => (hD b o h).2.1) (fun b o h => (hD b o h).2.2.1) (fun o h => (hD _ o h).2.2.2 rfl)
      have HL : Hid (∀ k, (enk (Kz.zip ns) k).length ≤ 65537) := fun k => by
        have h1 := enk_le (Kz.zip ns) k
        have h2 : ((Kz.zip ns).filterMap fun y => if y.2.2 then some y.1 else none).length ≤ (Kz.zip ns).length := List.length_filterMap_le _ _
        rw [List.length_zip, HN.out] at h2
        omega
      have HBAD : Hid (∀ k y x, (Kz.zip ns)[k]? = some (y, x) → (256 < y.length ∨ 4096 < (enk (Kz.zip ns) k).length) → R = 4) := fun k y x hk hb => by
        rw [← HR.out]
        refine wzE_bad fun h9 => ?_
        obtain ⟨l1, l2⟩ := ch_long h9.2.2.2
        rcases hb with hb | hb
        · obtain ⟨hyk, hxk⟩ := List.getElem?_zip_eq_some.1 hk
          have hN0 : N ≠ 0 := fun e => by have := (List.getElem?_eq_some_iff.1 hxk).1; rw [HN.out] at this; omega
          obtain ⟨e, he, hle⟩ := end_behind HN.out (hfm.resolve_left hN0) HZ N k y (by omega) hyk
          have := l2 e he
          omega
        · have h1 := enk_le (Kz.zip ns) k
          have h2 : (enz Kz ns).length = ((Kz.zip ns).filterMap fun y => if y.2.2 then some y.1 else none).length := rfl
          omega
      have HBY : Hid (∀ y ∈ Kz, M.By y ∧ y.length ≤ 65537) := fun y hy => ⟨HZ.by_ y hy, HZ.sh y hy⟩
      have hgw : w.heap.size + 3 ≤ g3 := by omega
      clear q0 q1 hbx hbl hB4 hZ t0 t1 u0 u1 v0 v1 hWl hw5 e1
      refine range_trie (m := mm) 89 _ rfl (enters_of Try.func89 (by kernel_rfl) rfl) (Kz.zip ns) (wsD (w.heap.size + 1) (w.heap.size + 1 + 1) g3 (g3 + 2)) (fun b o h => (hD b o h).1) rfl hG
        (fun k W => Wst w w.heap.size (w.heap.size + 1) (w.heap.size + 1 + 1) g3 (g3 + 2) I A N c (enk (Kz.zip ns) k) W) (fun cd W => cd = .ret ∧ R = 4 ∧ Below w.heap.size w W ∧ Bx1 W (w.heap.size + 1) 22 (.slice none 0 0) ∧ Bx1 W (w.heap.size + 1 + 1) 26 (.int .i64 4))
        (fun k A1 B1 h k1 => h.ch k1 hbw.size) (fun cd A1 B1 h k1 => ⟨h.1, h.2.1, k1.below hbw.size h.2.2.1, h.2.2.2.1.ch k1 (by decide), h.2.2.2.2.ch k1 (by decide)⟩) hst ?round ?done ?stop
      case round =>
        intro l k x A' q9 cc W hk hW hI'
        obtain ⟨y, xs, xe⟩ := x
        have HW := Lib.hid hI'
        simp only [wtv]
        clear hG hst hI'
        gi_wp2_with fail
        refine ⟨(Below.refl _ _).alloc (Nat.le_refl _) _, fun W2 hc2 => ?_⟩
        have hXn := Bx2.new W 64 (.slice A' q9 cc) (.bool xe)
        have hch : ChT Wl.heap.size W W2 := (ChT.of_below ((Below.refl W.heap.size W).alloc (Nat.le_refl _) (.cells #[.slice A' q9 cc, .bool xe] 64)) hW).trans (ChT.of_cells hc2)
        have HW2 := Lib.hid (HW.out.ch hch hbw.size)
        have hX2 : Bx2 W2 W.heap.size 64 (.slice A' q9 cc) (.bool xe) := hc2.same _ _ hXn rfl
        obtain ⟨a1, a2, a3, a4, V, a5, a6⟩ := HW2.out
        obtain ⟨VA, vc, rfl, hvc⟩ := a6.form
        have hl6 := HL.out k
        have hbad := HBAD.out k y (xs, xe) hk
        obtain ⟨hyk, hxk⟩ := List.getElem?_zip_eq_some.1 hk
        have hyb := HBY.out y (List.mem_of_getElem? hyk)
        have HE : Hid (enk (Kz.zip ns) (k + 1) = if xe = true then enk (Kz.zip ns) k ++ [y] else enk (Kz.zip ns) k) := by
          show _ = _
          cases he : xe with
          | true => rw [if_pos rfl, enk_yes hk he]
          | false => rw [if_neg (by decide), enk_no hk he]
        obtain ⟨l9, hl9⟩ : ∃ l9, enk (Kz.zip ns) k = l9 := ⟨_, rfl⟩
        rw [hl9] at HE HW2 a5 a6 hl6 hbad
        obtain ⟨ll, hll⟩ : ∃ ll, l9.length = ll := ⟨_, rfl⟩
        have HLL := Lib.hid hll
        rw [hll] at a5 a6 hl6 hbad
        obtain ⟨ly, hly⟩ : ∃ ly, y.length = ly := ⟨_, rfl⟩
        have HLY := Lib.hid hly
        have hlen := fun ty w => key_len (x := y) ty w
        rw [hly] at hlen hbad hyb
        obtain ⟨l0, l1⟩ := a5.cells
        obtain ⟨u0, u1⟩ := a3.cells
        obtain ⟨v0, v1⟩ := ((a4.far (b := w.heap.size + 1) (o := 0) (by omega) (.slice none 0 0))).cells
        obtain ⟨n0, n1, _, _⟩ := hX2.cells
        have hd1 : ∀ cs fr, wsD (w.heap.size + 1) (w.heap.size + 1 + 1) g3 (g3 + 2) (w.heap.size + 1) (.cells cs 22 fr) := fun cs fr => Or.inl ⟨Or.inl rfl, cs, fr, rfl⟩
        have hd2 : ∀ cs fr, wsD (w.heap.size + 1) (w.heap.size + 1 + 1) g3 (g3 + 2) (w.heap.size + 1 + 1) (.cells cs 26 fr) := fun cs fr => Or.inr (Or.inl ⟨rfl, cs, fr, rfl⟩)
        have hd3 : ∀ cs fr, wsD (w.heap.size + 1) (w.heap.size + 1 + 1) g3 (g3 + 2) g3 (.cells cs 22 fr) := fun cs fr => Or.inl ⟨Or.inr rfl, cs, fr, rfl⟩
        obtain ⟨_, f2, f3⟩ := hErr.out W2 a1 a3 a4
        have HRO : Hid (R = 4 → roundO (wsD (w.heap.size + 1) (w.heap.size + 1 + 1) g3 (g3 + 2)) (fun k W => Wst w w.heap.size (w.heap.size + 1) (w.heap.size + 1 + 1) g3 (g3 + 2) I A N c (enk (Kz.zip ns) k) W) (fun cd W => cd = .ret ∧ R = 4 ∧ Below w.heap.size w W ∧ Bx1 W (w.heap.size + 1) 22 (.slice none 0 0) ∧ Bx1 W (w.heap.size + 1 + 1) 26 (.int .i64 4)) k W2 .ret { tmps := #[], defers := [] } ((W2.setCell ⟨w.heap.size + 1, 0, none⟩ (.slice none 0 0)).setCell ⟨w.heap.size + 1 + 1, 0, none⟩ (.int .i64 4))) := fun hR4 =>
          ⟨⟨rfl, hR4, (a1.setCell (p := ⟨w.heap.size + 1, 0, none⟩) (by show w.heap.size ≤ w.heap.size + 1; omega) _).setCell (p := ⟨w.heap.size + 1 + 1, 0, none⟩) (by show w.heap.size ≤ w.heap.size + 1 + 1; omega) _, f2, f3⟩,
            (KAo.set1 a3 hd1 _).trans (KAo.set1 (a4.far (by omega) _) hd2 _)⟩
        have A5 := Lib.hid a5
        have A6 := Lib.hid a6
        have HD3 := Lib.hid hd3
        have hW2z : Wl.heap.size ≤ W2.heap.size := Nat.le_trans hW hch.size
        clear hXn hch hX2 a1 a2 a3 a4 a5 a6 f2 f3 hd1 hd2 hd3 hk hyk hxk hll hl9 hc2 HW hly
        by_cases hb1 : 256 < ly
        · have d1 : decide ((256 : Int) < ly) = true := decide_eq_true (by omega)
          have d2 : (256 : Int) < ly := by omega
          have hfin := HRO.out (hbad (Or.inl hb1))
          have HFI := Lib.hid hfin
          clear hfin HRO hbad
          gi_wp2_with fail
          exact HFI.out
        · have d1 : decide ((256 : Int) < ly) = false := decide_eq_false (by omega)
          have d2 : ¬ (256 : Int) < ly := by omega
          by_cases hb2 : 4096 < ll
          · have d3 : decide ((4096 : Int) < ll) = true := decide_eq_true (by omega)
            have d4 : (4096 : Int) < ll := by omega
            have hfin := HRO.out (hbad (Or.inr hb2))
            have HFI := Lib.hid hfin
            clear hfin HRO hbad
            gi_wp2_with fail
            exact HFI.out
          · have d3 : decide ((4096 : Int) < ll) = false := decide_eq_false (by omega)
            have d4 : ¬ (4096 : Int) < ll := by omega
            clear HRO hbad
            cases xe with
            | false =>
              have HFI : Hid (roundO (wsD (w.heap.size + 1) (w.heap.size + 1 + 1) g3 (g3 + 2)) (fun k W => Wst w w.heap.size (w.heap.size + 1) (w.heap.size + 1 + 1) g3 (g3 + 2) I A N c (enk (Kz.zip ns) k) W) (fun cd W => cd = .ret ∧ R = 4 ∧ Below w.heap.size w W ∧ Bx1 W (w.heap.size + 1) 22 (.slice none 0 0) ∧ Bx1 W (w.heap.size + 1 + 1) 26 (.int .i64 4)) k W2 .normal { tmps := #[], defers := [] } W2) := by
                refine ⟨?_, KAo.of_below (Below.refl _ _)⟩
                show Wst _ _ _ _ _ _ _ _ _ _ (enk (Kz.zip ns) (k + 1)) _
                rw [HE.out, if_neg (by decide)]
                exact HW2.out
              clear HW2 A5 A6 HD3
              gi_wp2_with fail
              exact HFI.out
            | true =>
              have hyb1 := hyb.1
              gi_wp2_with fail
              refine wpIn_region_inv (fun listed a w' => (listed.getD 5 false = true → RgE W2 (wsD (w.heap.size + 1) (w.heap.size + 1 + 1) g3 (g3 + 2)) g3 (g3 + 2) y l9 w' ∧ ∀ j, j < 5 → listed.getD j false = true) ∧ (listed.getD 5 false = false → RgI W2 (wsD (w.heap.size + 1) (w.heap.size + 1 + 1) g3 (g3 + 2)) g3 (g3 + 2) ly VA ll vc y l9 (fun j => listed.getD j false) a w')) (by kernel_rfl) (by kernel_rfl) ?init ?step ?fin
              case init =>
                refine ⟨fun h => by simp at h, fun _ => ?_⟩
                refine ⟨rfl, rfl, rfl, ⟨fun h => by simp at h, fun h => by simp at h, fun h => by simp at h, fun h => by simp at h⟩, fun h => by simp at h, fun h => by simp at h, fun _ _ => (Below.refl _ _).drew, fun _ h => by simp at h, fun h => by simp at h⟩
              case step =>
                intro listed a w' hs hI i hi
                obtain ⟨h0, o, ho, hall⟩ := mem_ready.1 hi
                have hil : i < 6 := (Array.getElem?_eq_some_iff.1 ho).1
                have hs6 : listed.size = 6 := hs
                have hiL : i < listed.size := by rw [hs6]; exact hil
                have h00 : listed.getD i false = false := by
                  simp [hiL] at h0 ⊢
                  exact h0
                clear ho hall h0 o
                have h5 : i ≠ 5 → listed.getD 5 false = false := fun hne => by
                  cases h5 : listed.getD 5 false with
                  | false => rfl
                  | true =>
                    have := (hI.1 h5).2 i (by omega)
                    rw [h00] at this
                    cases this
                have hnx : i ≠ 5 → ∀ {a' : Act} {w'' : World}, RgI W2 (wsD (w.heap.size + 1) (w.heap.size + 1 + 1) g3 (g3 + 2)) g3 (g3 + 2) ly VA ll vc y l9 (upL (fun j => listed.getD j false) i) a' w'' → ((listed.setIfInBounds i true).getD 5 false = true → RgE W2 (wsD (w.heap.size + 1) (w.heap.size + 1 + 1) g3 (g3 + 2)) g3 (g3 + 2) y l9 w'' ∧ ∀ j, j < 5 → (listed.setIfInBounds i true).getD j false = true) ∧ ((listed.setIfInBounds i true).getD 5 false = false → RgI W2 (wsD (w.heap.size + 1) (w.heap.size + 1 + 1) g3 (g3 + 2)) g3 (g3 + 2) ly VA ll vc y l9 (fun j => (listed.setIfInBounds i true).getD j false) a' w'') := fun hne a' w'' h9 => by
                  have h8 : (listed.setIfInBounds i true).getD 5 false = false := by rw [getD_set_ne false hne]; exact h5 hne
                  refine ⟨fun h7 => absurd h7 (by rw [h8]; decide), fun _ => ?_⟩
                  rw [upL_set hiL]
                  exact h9
                rcases (by omega : i = 0 ∨ i = 1 ∨ i = 2 ∨ i = 3 ∨ i = 4 ∨ i = 5) with rfl | rfl | rfl | rfl | rfl | rfl
                · refine wpOpIn_yields (Open.round _) (by kernel_rfl) (o := _) rfl rfl ?_
                  exact yM_mono ((hI.2 (h5 (by decide))).load rfl rfl h00 A5.out) fun v w'' h9 => hnx (by decide) h9
                · refine wpOpIn_yields (Open.round _) (by kernel_rfl) (o := _) rfl rfl ?_
                  exact yM_mono ((hI.2 (h5 (by decide))).mv rfl rfl h00) fun v w'' h9 => hnx (by decide) h9
                · have d1 := ready_dep hi (o := _) rfl (j := 1) (by kernel_rfl)
                  refine wpOpIn_yields (Open.round _) (by kernel_rfl) (o := _) rfl rfl ?_
                  exact yM_mono ((hI.2 (h5 (by decide))).call rfl rfl h00 d1 hyb1 HLY.out hyb.2) fun v w'' h9 => hnx (by decide) h9
                · have d1 := ready_dep hi (o := _) rfl (j := 2) (by kernel_rfl)
                  refine wpOpIn_yields (Open.round _) (by kernel_rfl) (o := _) rfl rfl ?_
                  exact yM_mono ((hI.2 (h5 (by decide))).build rfl rfl h00 d1) fun v w'' h9 => hnx (by decide) h9
                · have d1 := ready_dep hi (o := _) rfl (j := 0) (by kernel_rfl)
                  have d2 := ready_dep hi (o := _) rfl (j := 3) (by kernel_rfl)
                  have hBW : g3 + 2 ≤ W2.heap.size := by have := HW2.out.x1.lt; have := hW2z; omega
                  refine wpOpIn_yields (Open.round _) (by kernel_rfl) (o := _) rfl rfl ?_
                  exact yM_mono ((hI.2 (h5 (by decide))).app rfl rfl h00 d1 d2 A5.out A6.out (by rw [HLL.out]; omega) HLY.out hBW (fun b cs fr h => Or.inr (Or.inr ⟨h, cs, fr, rfl⟩)) (by omega) (h5 (by decide))) fun v w'' h9 => hnx (by decide) h9
                · have d1 := ready_dep hi (o := _) rfl (j := 4) (by kernel_rfl)
                  have hRI := hI.2 h00
                  refine wpOpIn_yields (Open.round _) (by kernel_rfl) (o := _) rfl rfl ?_
                  refine yM_mono (hRI.store rfl rfl d1 (by omega) HD3.out) fun v w'' h9 => ?_
                  have h4 : (listed.setIfInBounds 5 true).getD 5 false = true := by simp [hs6]
                  refine ⟨fun _ => ⟨h9, fun j hj => ?_⟩, fun h7 => by rw [h4] at h7; cases h7⟩
                  rw [getD_set_ne false (by omega)]
                  have c3 := hRI.cl.1 d1
                  have c2 := hRI.cl.2.1 c3.2
                  have c1 := hRI.cl.2.2.1 c2
                  rcases (by omega : j = 0 ∨ j = 1 ∨ j = 2 ∨ j = 3 ∨ j = 4) with rfl | rfl | rfl | rfl | rfl
                  · exact c3.1
                  · exact c1
                  · exact c2
                  · exact c3.2
                  · exact d1
              case fin =>
                intro listed a w' hs hall hI
                have h5 : listed.getD 5 false = true := getD_ft (by rw [hs]; decide) (hall 5 (by decide))
                have hI := (hI.1 h5).1
                have HFI : roundO (wsD (w.heap.size + 1) (w.heap.size + 1 + 1) g3 (g3 + 2)) (fun k W => Wst w w.heap.size (w.heap.size + 1) (w.heap.size + 1 + 1) g3 (g3 + 2) I A N c (enk (Kz.zip ns) k) W) (fun cd W => cd = .ret ∧ R = 4 ∧ Below w.heap.size w W ∧ Bx1 W (w.heap.size + 1) 22 (.slice none 0 0) ∧ Bx1 W (w.heap.size + 1 + 1) 26 (.int .i64 4)) k W2 .normal a w' := by
                  refine ⟨?_, hI.1⟩
                  show Wst _ _ _ _ _ _ _ _ _ _ (enk (Kz.zip ns) (k + 1)) _
                  rw [HE.out]
                  simp only [if_true]
                  exact HW2.out.app hI ⟨by omega, by omega, by omega⟩ ⟨by omega, by omega, by omega⟩ (by omega) (by omega)
                gi_wp2_with fail
                exact HFI
      case done =>
        intro N9 W hN9 hI' hd
        rw [enk_all] at hI'
        obtain ⟨a1, a2, a3, a4, V, a5, a6⟩ := hI'
        obtain ⟨VA, vc, rfl, hvc⟩ := a6.form
        obtain ⟨S, hS⟩ : ∃ S, enz Kz ns = S := ⟨_, rfl⟩
        rw [hS] at a5 a6 hvc
        have HS := Lib.hid hS
        obtain ⟨ll, hll⟩ : ∃ ll, S.length = ll := ⟨_, rfl⟩
        have HLL := Lib.hid hll
        rw [hll] at a5 a6 hvc
        have hl9 : ll ≤ 65537 := by
          have := HL.out (Kz.zip ns).length
          rw [enk_all, hS, hll] at this
          exact this
        have HRd : Hid (RdS W VA S) := a6.rdx.rds
        have CT := Lib.hid (tcheck_any VA vc ll S I W HRd.out hll (by omega))
        obtain ⟨l0, _⟩ := a5.cells
        obtain ⟨t0, _, _, _⟩ := a2.cells
        have A1 := Lib.hid a1
        have A3 := Lib.hid a3
        have A4 := Lib.hid a4
        have A5 := Lib.hid a5
        have A6 := Lib.hid a6
        have HD := Lib.hid hd
        have hWN : Wl.heap.size ≤ W.heap.size := by have := hlt hd; omega
        clear hG hst a1 a2 a3 a4 a5 a6 hS hll hd
        simp only [marked]
        gi_wp2_with fail
        refine wide_calls CT.out ?_
        rintro e w7 ⟨rfl, hb7⟩
        have A1 := Lib.hid (below_next A1.out hb7)
        have A3 := Lib.hid (A3.out.below hb7)
        have A4 := Lib.hid (A4.out.below hb7)
        have A5 := Lib.hid (A5.out.below hb7)
        have A6 := Lib.hid (A6.out.below hb7)
        have HD := Lib.hid ((hb7.block N9 (hlt HD.out)).trans HD.out)
        obtain ⟨l0, _⟩ := A5.out.cells
        obtain ⟨u0, u1⟩ := A3.out.cells
        obtain ⟨er, her⟩ : ∃ er, M.chE S I = er := ⟨_, rfl⟩
        rw [her]
        have HER := Lib.hid her
        clear her hb7 CT
        by_cases hz : er = 0
        · subst hz
          obtain rfl : R = 0 := by rw [← HR.out]; exact wzE_ok ⟨hI.1, hI.2, HFB.out, by rw [HS.out]; exact HER.out⟩
          obtain ⟨v0, v1⟩ := (A4.out.far (b := w.heap.size + 1) (o := 0) (by omega) (.slice VA ll ll)).cells
          have g1 := (A3.out.set_ (.slice VA ll ll)).far (b := w.heap.size + 1 + 1) (o := 0) (by omega) (.int .i64 0)
          have g2 := (A4.out.far (b := w.heap.size + 1) (o := 0) (by omega) (.slice VA ll ll)).set_ (.int .i64 0)
          have hdf : ((w7.setCell ⟨w.heap.size + 1, 0, none⟩ (.slice VA ll ll)).setCell ⟨w.heap.size + 1 + 1, 0, none⟩ (.int .i64 0)).heap[N9]? = some (.deferred (some [])) := ((Below.heap_setCell _ ⟨w.heap.size + 1 + 1, 0, none⟩ _ N9 (by show N9 ≠ w.heap.size + 1 + 1; omega)).trans (Below.heap_setCell _ ⟨w.heap.size + 1, 0, none⟩ _ N9 (by show N9 ≠ w.heap.size + 1; omega))).trans HD.out
          have hc := Cells.put (B := Wl.heap.size) (.deferred none) hdf rfl hN9
          obtain ⟨r1, _⟩ := Bx1.cells (hc.same _ _ g1 rfl : Bx1 (((w7.setCell ⟨w.heap.size + 1, 0, none⟩ (.slice VA ll ll)).setCell ⟨w.heap.size + 1 + 1, 0, none⟩ (.int .i64 0)).putObj N9 (.deferred none)) (w.heap.size + 1) 22 (.slice VA ll ll))
          obtain ⟨r2, _⟩ := Bx1.cells (hc.same _ _ g2 rfl : Bx1 (((w7.setCell ⟨w.heap.size + 1, 0, none⟩ (.slice VA ll ll)).setCell ⟨w.heap.size + 1 + 1, 0, none⟩ (.int .i64 0)).putObj N9 (.deferred none)) (w.heap.size + 1 + 1) 26 (.int .i64 0))
          have hO : OwZ (((w7.setCell ⟨w.heap.size + 1, 0, none⟩ (.slice VA ll ll)).setCell ⟨w.heap.size + 1 + 1, 0, none⟩ (.int .i64 0)).putObj N9 (.deferred none)) (g3 + 2) (.slice VA ll vc) S := ((A6.out.far _ (by omega)).far _ (by omega)).keep fun b cs t fr _ hb _ => hc.same b _ hb rfl
          have HB := Lib.hid (hc.below hbw.size ((A1.out.setCell (p := ⟨w.heap.size + 1, 0, none⟩) (by show w.heap.size ≤ w.heap.size + 1; omega) (.slice VA ll ll)).setCell (p := ⟨w.heap.size + 1 + 1, 0, none⟩) (by show w.heap.size ≤ w.heap.size + 1 + 1; omega) (.int .i64 0)))
          have HX := Lib.hid hO.rdx
          have HDF := Lib.hid hdf
          clear g1 g2 hdf hc hO
          gi_wp2_with fail
          refine wide_calls (clip_any VA ll vc w7 hvc) ?_
          rintro e w8 ⟨rfl, hw8⟩
          obtain rfl : w7 = w8 := hw8.symm
          gi_wp2_with fail
          refine ⟨by simp, .inl ⟨_, _, rfl, run_takeDeferred HDF.out, ?_⟩⟩
          refine ⟨.tuple #[.slice VA ll ll, .int .i64 0], ?_, ⟨VA, ll, rfl, by rw [okL_ok, HS.out, HLL.out], by rw [okL_ok, HS.out]; exact HX.out, HB.out⟩⟩
          simp [results, Try.f44, go_sem, r1, r2]
        · have hne : (er != 0) = true := by simpa using hz
          obtain rfl : R = 4 := by rw [← HR.out]; exact wzE_bad (fun h9 => hz (by rw [← HER.out, ← HS.out]; exact h9.2.2.2))
          obtain ⟨v0, v1⟩ := (A4.out.far (b := w.heap.size + 1) (o := 0) (by omega) (.slice none 0 0)).cells
          have g1 := (A3.out.set_ (.slice none 0 0)).far (b := w.heap.size + 1 + 1) (o := 0) (by omega) (.int .i64 4)
          have g2 := (A4.out.far (b := w.heap.size + 1) (o := 0) (by omega) (.slice none 0 0)).set_ (.int .i64 4)
          have hdf : ((w7.setCell ⟨w.heap.size + 1, 0, none⟩ (.slice none 0 0)).setCell ⟨w.heap.size + 1 + 1, 0, none⟩ (.int .i64 4)).heap[N9]? = some (.deferred (some [])) := ((Below.heap_setCell _ ⟨w.heap.size + 1 + 1, 0, none⟩ _ N9 (by show N9 ≠ w.heap.size + 1 + 1; omega)).trans (Below.heap_setCell _ ⟨w.heap.size + 1, 0, none⟩ _ N9 (by show N9 ≠ w.heap.size + 1; omega))).trans HD.out
          have hc := Cells.put (B := Wl.heap.size) (.deferred none) hdf rfl hN9
          obtain ⟨r1, _⟩ := Bx1.cells (hc.same _ _ g1 rfl : Bx1 (((w7.setCell ⟨w.heap.size + 1, 0, none⟩ (.slice none 0 0)).setCell ⟨w.heap.size + 1 + 1, 0, none⟩ (.int .i64 4)).putObj N9 (.deferred none)) (w.heap.size + 1) 22 (.slice none 0 0))
          obtain ⟨r2, _⟩ := Bx1.cells (hc.same _ _ g2 rfl : Bx1 (((w7.setCell ⟨w.heap.size + 1, 0, none⟩ (.slice none 0 0)).setCell ⟨w.heap.size + 1 + 1, 0, none⟩ (.int .i64 4)).putObj N9 (.deferred none)) (w.heap.size + 1 + 1) 26 (.int .i64 4))
          have HB := Lib.hid (hc.below hbw.size ((A1.out.setCell (p := ⟨w.heap.size + 1, 0, none⟩) (by show w.heap.size ≤ w.heap.size + 1; omega) (.slice none 0 0)).setCell (p := ⟨w.heap.size + 1 + 1, 0, none⟩) (by show w.heap.size ≤ w.heap.size + 1 + 1; omega) (.int .i64 4)))
          have HDF := Lib.hid hdf
          rw [okL_err (by decide)]
          clear g1 g2 hdf hc
          gi_wp2_with fail
          refine ⟨by simp, .inl ⟨_, _, rfl, run_takeDeferred HDF.out, ?_⟩⟩
          refine ⟨.tuple #[.slice none 0 0, .int .i64 4], ?_, Lst.no HB.out⟩
          simp [results, Try.f44, go_sem, r1, r2]
      case stop =>
        rintro N9 cd W hN9 ⟨rfl, hR4, hb, h1, h2⟩ hd
        subst hR4
        have hc := Cells.put (B := Wl.heap.size) (.deferred none) hd rfl hN9
        have g1 : Bx1 (W.putObj N9 (.deferred none)) (w.heap.size + 1) 22 (.slice none 0 0) := hc.same _ _ h1 rfl
        have g2 : Bx1 (W.putObj N9 (.deferred none)) (w.heap.size + 1 + 1) 26 (.int .i64 4) := hc.same _ _ h2 rfl
        obtain ⟨r1, _⟩ := g1.cells
        obtain ⟨r2, _⟩ := g2.cells
        have HB := Lib.hid (hc.below hbw.size hb)
        have HD := Lib.hid hd
        clear hd hc g1 g2 hG
        rw [okL_err (by decide)]
        simp only [marked]
        gi_wp2_with fail
        refine ⟨by simp, .inl ⟨_, _, rfl, run_takeDeferred HD.out, ?_⟩⟩
        refine ⟨.tuple #[.slice none 0 0, .int .i64 4], ?_, Lst.no HB.out⟩
        simp [results, Try.f44, go_sem, r1, r2]
  · obtain rfl : R = 4 := by rw [← HR.out]; exact wzE_bad (fun h9 => hI ⟨h9.1, h9.2.1⟩)
    obtain ⟨f1, f2, f3⟩ := hErr.out W0 B0.out X1.out X2.out
    have HF := Lib.hid f1
    obtain ⟨r1, _⟩ := f2.cells
    obtain ⟨r2, _⟩ := f3.cells
    obtain ⟨v0, v1⟩ := (X2.out.far (b := w.heap.size + 1) (o := 0) (by omega) (.slice none 0 0)).cells
    rw [okL_err (by decide)]
    clear f1 f2 f3
    gi_wp2_with fail
    refine wide_calls (cinputs_any I _) ?_
    rintro e w2 ⟨rfl, hw2⟩
    obtain rfl : W0 = w2 := hw2.symm
    by_cases h16 : 16 < I
    · rw [if_pos h16]
      clear h16
      gi_wp2_with fail
      refine ⟨trivial, ?_⟩
      gi_wp2_with fail
      refine ⟨.tuple #[.slice none 0 0, .int .i64 4], ?_, HF.out⟩
      simp [results, Try.f44, go_sem, r1, r2]
    · rw [if_neg h16, if_pos (by omega)]
      clear h16
      gi_wp2_with fail
      refine ⟨trivial, ?_⟩
      gi_wp2_with fail
      refine ⟨.tuple #[.slice none 0 0, .int .i64 4], ?_, HF.out⟩
      simp [results, Try.f44, go_sem, r1, r2]
end Go.Proofs.Ytjodhihcckcefaa
