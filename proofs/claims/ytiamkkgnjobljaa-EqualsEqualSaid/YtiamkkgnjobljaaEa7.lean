/-
  Contract: equals.Relate. No statement is proved here.
-/
import Derived.Test.YtiamkkgnjobljaaEa6
namespace Go.Proofs.Ytiamkkgnjobljaa
open Go.RowKit
open Mc (Ed Ma Wv)
attribute [local go_sem] Oper.semAt_some

theorem pclip_any (g n c : Nat) (w : World) (h : n ≤ c) :
    Calls Try.prog 84 #[.slice (some ⟨g, 0, none⟩) n c] w fun e w' => e = .returned (.slice (some ⟨g, 0, none⟩) n n) ∧ w' = w := by
  go_enter Try.func84, Try.ntmps84
  go_wp2
  go_ret
  exact ⟨rfl, rfl⟩

/-- The memory of Relate in its loop. -/
structure Rlm (w : World) (h : Nat) (ia oa ib ob : Int) (A B : Option Addr) (n c n2 c2 : Nat) (g M : Nat) (ps : List (Int × Int)) (V : Value) (W : World) : Prop where
  bel : Below w.heap.size w W
  ma : BxM W h ia oa A n c
  mb : BxM W (h + 1) ib ob B n2 c2
  bx : Box W g V
  own : W.ownsRow M 95 2 V ps.length (eC ps)
  hh : w.heap.size = h
  hg : h + 1 < g
  hM : g < M
  hW : M ≤ W.heap.size
section
variable {w W W' : World} {h g M n c n2 c2 : Nat} {ia oa ib ob : Int} {A B : Option Addr} {ps : List (Int × Int)} {V : Value}
theorem rowP_che {N : Nat} (x : W.ownsRow M 95 2 V n (eC ps)) (k : Che N W W') : W'.ownsRow M 95 2 V n (eC ps) := by
  refine ⟨x.1, ?_⟩
  rcases x.2 with h0 | ⟨g, cap, cur, e1, hb, hg, rest⟩
  · exact .inl h0
  · exact .inr ⟨g, cap, cur, e1, hb, k.same g _ _ _ hg (by decide), rest⟩
theorem Rlm.che {N : Nat} (x : Rlm w h ia oa ib ob A B n c n2 c2 g M ps V W) (k : Che N W W') (h1 : M ≤ N) : Rlm w h ia oa ib ob A B n c n2 c2 g M ps V W' := by
  have := x.hg
  have := x.hM
  exact ⟨k.below (by have := x.hh; omega) x.bel, x.ma.che k (by omega), x.mb.che k (by omega), x.bx.che k (by omega), rowP_che x.own k, x.hh, x.hg, x.hM, Nat.le_trans x.hW k.size⟩
theorem Rlm.below (x : Rlm w h ia oa ib ob A B n c n2 c2 g M ps V W) (k : Below W.heap.size W W') : Rlm w h ia oa ib ob A B n c n2 c2 g M ps V W' :=
  x.che (Che.of_below k (Nat.le_refl _)) x.hW
theorem Rlm.step (x : Rlm w h ia oa ib ob A B n c n2 c2 g M ps V W) {o : Obj} {w1 : World} {gn cn : Nat} {s t : Int} (h1 : w1.ownsRow M 95 2 (.slice (some ⟨gn, 0, none⟩) (ps.length + 1) cn) (ps.length + 1) (eC ps ++ [.int .i64 s, .int .i64 t])) (hg : (W.alloc o).grownBy w1 V.ownBlock) :
    Rlm w h ia oa ib ob A B n c n2 c2 g M (ps ++ [(s, t)]) (.slice (some ⟨gn, 0, none⟩) (ps.length + 1) cn) (w1.setCell ⟨g, 0, none⟩ (.slice (some ⟨gn, 0, none⟩) (ps.length + 1) cn)) ∧
    KA2 (fun b => b = g) M W (w1.setCell ⟨g, 0, none⟩ (.slice (some ⟨gn, 0, none⟩) (ps.length + 1) cn)) := by
  have e1 := x.hg
  have e2 := x.hM
  have e3 := x.hW
  have e4 := x.hh
  have hlow : ∀ b, V.ownBlock = some b → M ≤ b := fun b hb => (x.own.lt b hb).1
  have hkeep : ∀ b, b < M → w1.heap[b]? = W.heap[b]? := fun b hb => (hg.block b (by rw [World.size_alloc]; omega) (fun e => by have := hlow b e.symm; omega)).trans (Below.heap_alloc _ _ _ (by omega))
  have hsz : W.heap.size ≤ w1.heap.size := by have := hg.size; rw [World.size_alloc] at this; omega
  have hbe : Below w.heap.size w w1 := ⟨hg.os.trans x.bel.os, hg.tape.trans x.bel.tape, hg.output.trans x.bel.output, Nat.le_trans x.bel.size hsz, fun b hb => (hkeep b (by omega)).trans (x.bel.block b hb)⟩
  have hbx : Box w1 g V := ⟨(World.cell?_of_block (w := W) (a := ⟨g, 0, none⟩) (hkeep g e2)).trans x.bx.1, (World.frozen?_of_block (w := W) (a := ⟨g, 0, none⟩) (hkeep g e2)).trans x.bx.2⟩
  refine ⟨⟨hbe.setCell (p := ⟨g, 0, none⟩) (by show _ ≤ g; omega) _, ?_, ?_, hbx.set_ _, ?_, e4, e1, e2, by simp [World.setCell]; omega⟩, ?_⟩
  · exact (Below.heap_setCell _ _ _ h (by show h ≠ g; omega)).trans ((hkeep h (by omega)).trans x.ma)
  · exact (Below.heap_setCell _ _ _ (h + 1) (by show h + 1 ≠ g; omega)).trans ((hkeep (h + 1) (by omega)).trans x.mb)
  · refine ⟨by rw [eC_len], .inr ?_⟩
    rcases h1.2 with ⟨h0, _⟩ | ⟨g', cap, cur, e5, hb, hgg, hc, hm, hs, ht⟩
    · cases h0
    · refine ⟨g', cap, cur, ?_, hb, ?_, ?_, hm, hs, ?_⟩
      · rw [e5]; simp
      · exact (Below.heap_setCell _ _ _ g' (by show g' ≠ g; omega)).trans hgg
      · simpa using hc
      · rw [eC_app, eC_one, ← ht]; simp
  · refine ⟨by simp [World.setCell]; omega, fun b o' hb hm ho => ?_⟩
    rw [Below.heap_setCell _ _ _ b hb]
    rcases hm with hm | hm
    · exact (hkeep b hm).trans ho
    · refine (hg.block b (by have := hlt ho; rw [World.size_alloc]; omega) (fun e => ?_)).trans ((Below.heap_alloc _ _ _ (hlt ho)).trans ho)
      rcases x.own.2 with ⟨h0, _⟩ | ⟨g', cap, cur, e5, _, hgg, _⟩
      · rw [h0] at e; cases e
      · rw [e5] at e
        simp [Value.ownBlock] at e
        subst e
        rw [hgg] at ho
        injection ho with ho
        subst ho
        simp [pc] at hm
end
theorem rdP_celE {C : Nat} {w w' : World} {A : Option Addr} {ps : List (Int × Int)} (h : RdP w A ps) (k : CelE C w w') : RdP w' A ps := fun hp => by
  obtain ⟨b, off, e, hb, hc⟩ := h hp
  exact ⟨b, off, e, Nat.lt_of_lt_of_le hb k.size, fun j x hj => ⟨k.cell (hc j x hj).1, k.cell (hc j x hj).2⟩⟩
/-- What Relate hands back. -/
def RelP (w : World) (a b : Ma) (e : Ending) (w' : World) : Prop := Below w.heap.size w w' ∧ ∃ (X : Option Addr) (k : Nat) (is : Bool) (z : Int), e = .returned (.tuple #[.slice X k k, .bool is, .int .i64 z]) ∧ z = ech a b ∧
  ((is = true ∧ z = 0 ∧ Mc.Sim a b ∧ ∃ qs : List (Int × Int), qs.Perm ((Mc.wk (Mc.pr a b) 0).map (pq b.r.length)) ∧ qs.Pairwise (fun p q => ¬ cmpP q p < 0) ∧ RdP w' X qs ∧ qs.length = k) ∨ (is = false ∧ X = none ∧ k = 0 ∧ (z = 0 → ¬ Mc.Sim a b)))
set_option maxRecDepth 100000 in
set_option maxHeartbeats 4000000 in
theorem erelate_any (a b : Ma) (A B : Option Addr) (n c n2 c2 : Nat) (w : World) (hra : RdR w A a.r) (hn : a.r.length = n) (hnb : n ≤ 1000000) (hrl : ∀ row ∈ a.r, row.length ≤ 1000000) (hrb : RdR w B b.r) (hn2 : b.r.length = n2) (hnb2 : n2 ≤ 1000000) (hrl2 : ∀ row ∈ b.r, row.length ≤ 1000000) :
    Calls Try.prog 53 #[.agg #[.int .i64 a.i, .int .i64 a.o, .slice A n c], .agg #[.int .i64 b.i, .int .i64 b.o, .slice B n2 c2]] w (RelP w a b) := by
  obtain ⟨mm, _⟩ : ∃ mm : Nat, True := ⟨3, trivial⟩
  obtain ⟨h, hh⟩ : ∃ h, w.heap.size = h := ⟨_, rfl⟩
  obtain ⟨W1, hW1⟩ : ∃ W1, boxM (boxM w a.i a.o A n c) b.i b.o B n2 c2 = W1 := ⟨_, rfl⟩
  have hB1 : Below w.heap.size w W1 := by rw [← hW1]; exact ((Below.refl _ _).alloc (Nat.le_refl _) _).alloc (by simp) _
  have hM1 : BxM W1 h a.i a.o A n c := by rw [← hW1]; exact (BxM.newE hh a.i a.o A n c).mvB ((Below.refl _ _).alloc (Nat.le_refl _) _)
  have hM2 : BxM W1 (h + 1) b.i b.o B n2 c2 := by rw [← hW1]; exact BxM.newE (by simp [boxM, hh]) b.i b.o B n2 c2
  have hz1 : W1.heap.size = h + 2 := by rw [← hW1, ← hh]; simp [boxM]
  obtain ⟨p0, p1, p2⟩ := hM1.cells
  obtain ⟨q0, q1, q2⟩ := hM2.cells
  have hC := eequal_any a b A B n c n2 c2 W1 (hra.below hB1) hn hnb hrl (hrb.below hB1) hn2 hnb2 hrl2
  have HC := Lib.hid hC
  have HN := Lib.hid hn
  have HN2 := Lib.hid hn2
  clear hC hrl hrl2 hn hn2
  refine (callsIn_wide (n := mm)).1 ?_
  refine callsIn_of_wp_marks Try.func53 rfl trivial ?_
  simp only [Try.ntmps53, List.size_toArray, List.length_cons, List.length_nil, Nat.reduceAdd, Nat.reduceSub, Array.replicate_succ, Array.replicate_zero, List.push_toArray, List.append_toArray, List.nil_append, List.cons_append]
  gi_wp2_with fail
  refine wide_calls HC.out ?_
  rintro e w2 ⟨hb2, is, z, rfl, hz, hzf, hzs⟩
  have hBW := below_next hB1 hb2
  have hA2 := hM1.mvB hb2
  have hB2 := hM2.mvB hb2
  have hz2 : h + 2 ≤ w2.heap.size := by have h1 := hb2.size; omega
  have HZ := Lib.hid hz
  have HZF := Lib.hid hzf
  have HZS := Lib.hid hzs
  have HBW := Lib.hid hBW
  clear p0 p1 p2 q0 q1 q2 hb2 hB1 hW1 hz1 HC hM1 hM2 hz hzf hzs hBW
  by_cases h0 : z = 0
  · subst h0
    have hzb : ((0 : Int) == 0) = true := rfl
    cases is with
    | false =>
      have hns : Hid (¬ Mc.Sim a b) := fun h => by have := (HZS.out rfl).2 h; cases this
      gi_wp2_with fail
      refine ⟨.tuple #[.slice none 0 0, .bool false, .int .i64 0], ?_, HBW.out, none, 0, false, 0, rfl, HZ.out, Or.inr ⟨rfl, rfl, rfl, fun _ => hns.out⟩⟩
      simp [results, Try.f53, go_sem]
    | true =>
      have hsim : Hid (Mc.Sim a b) := (HZS.out rfl).1 rfl
      obtain ⟨va, vb, hi⟩ := ech_ok HZ.out.symm
      have HI := Lib.hid hi
      obtain ⟨g, hg⟩ : ∃ g, w2.heap.size = g := ⟨_, rfl⟩
      have hb3 : Below w2.heap.size w2 (w2.alloc (.cells #[.slice none 0 0] 55)) := (Below.refl _ _).alloc (Nat.le_refl _) _
      have hX3 : Box (w2.alloc (.cells #[.slice none 0 0] 55)) g (.slice none 0 0) := Box.new_ hg _ _
      have hz3 : (w2.alloc (.cells #[.slice none 0 0] 55)).heap.size = g + 1 := by rw [← hg]; simp
      have hA3 := hA2.mvB hb3
      have hB3 := hB2.mvB hb3
      obtain ⟨p0, p1, p2⟩ := hA3.cells
      obtain ⟨q0, q1, q2⟩ := hB3.cells
      have hBW3 := below_next HBW.out hb3
      clear hA2 hB2 hi
      gi_wp2_with fail
      refine wide_calls (ewalk_any _ _ _ _ _ _ _ _ _ _ _) ?_
      rintro e w4 ⟨rfl, rfl⟩
      gi_wp2_with fail
      obtain ⟨Wl, hWl⟩ : ∃ Wl, boxM (boxM (w2.alloc (.cells #[.slice none 0 0] 55)) a.i a.o A n c) b.i b.o B n2 c2 = Wl := ⟨_, rfl⟩
      rw [hWl]
      have hbB : Below (w2.alloc (.cells #[.slice none 0 0] 55)).heap.size (w2.alloc (.cells #[.slice none 0 0] 55)) Wl := by rw [← hWl]; exact ((Below.refl _ _).alloc (Nat.le_refl _) _).alloc (by simp) _
      have hzl : Wl.heap.size = g + 3 := by rw [← hWl, ← hg]; simp [boxM]
      have hbw := below_next hBW3 hbB
      have hPl : Rlm w h a.i a.o b.i b.o A B n c n2 c2 g (g + 3) [] (.slice none 0 0) Wl :=
        ⟨hbw, hA3.mvB hbB, hB3.mvB hbB, hX3.below hbB, World.ownsRow_nil _ _ _ _, hh, by omega, by omega, by omega⟩
      have hba : BxM Wl (g + 1) a.i a.o A n c := by
        rw [← hWl, ← hz3]
        exact (BxM.new _ a.i a.o A n c).mvB ((Below.refl _ _).alloc (Nat.le_refl _) _)
      have hbb : BxM Wl (g + 1 + 1) b.i b.o B n2 c2 := by
        rw [← hWl]
        exact BxM.newE (by rw [← hz3]; simp [boxM]) b.i b.o B n2 c2
      obtain ⟨L, hL⟩ : ∃ L, Mc.wk (Mc.pr a b) 0 = L := ⟨_, rfl⟩
      have hG : GivesE (mm - 1) n2 86 #[.pointer (some ⟨g + 1, 0, none⟩), .pointer (some ⟨g + 1 + 1, 0, none⟩)] L (fun b => b = g) Wl := by
        rw [← hL]
        exact ewalk1_gives (mm - 1) a b va vb HI.out (g + 1) (g + 1 + 1) A B c c2 n n2 HN.out HN2.out (fun b => b = g) w Wl hra hrb hbw hba hbb (by show g + 1 ≠ g; omega) (by show g + 1 + 1 ≠ g; omega) (fun b h => by omega) (fun b h => by omega)
      have hBF : Hid (Mc.BF (Mc.pr a b) 0 L L.length 0) := by
        show Mc.BF _ _ _ _ _
        rw [← hL]
        exact Mc.wk_bfQ (Mc.pr_vq va vb HI.out) ⟨by omega, by rw [Mc.pr_len]; exact_mod_cast Nat.mul_pos va.r0 vb.r0⟩
      have hLL : L.length ≤ 4096 := by
        have h1 := hBF.out.lenQ (Mc.pr_vq va vb HI.out)
        rw [Mc.pr_len] at h1
        have := Nat.mul_le_mul va.r1 vb.r1
        omega
      have HLE := Lib.hid hL
      have HVA := Lib.hid va
      have HVB := Lib.hid vb
      clear p0 p1 p2 q0 q1 q2 hA3 hB3 hX3 hbB hba hbb hWl hL va vb hBW3 hb3 hbw
      refine range_arr (m := mm) 86 _ rfl (enters_of Try.func86 (by kernel_rfl) rfl) L (fun b => b = g) (fun b hb => by omega) rfl n2 hG
        (fun k W => ∃ V, Rlm w h a.i a.o b.i b.o A B n c n2 c2 g (g + 3) ((L.take k).map (pq n2)) V W)
        (fun c' W => False)
        (fun k A B h c => by obtain ⟨V, h⟩ := h; exact ⟨V, h.che c (by omega)⟩) (fun c' A B h c => h.elim) ⟨_, by simpa using hPl⟩ ?round ?done ?stop
      case round =>
        rintro l k x X W hk hW ⟨V, hI⟩ hO
        have HK := Lib.hid hk
        simp only [arv]
        clear hk hG hPl
        gi_wp2_with fail
        refine ⟨Below.refl _ _, fun W2 hc2 => ?_⟩
        have hI2 := hI.che (Che.of_cells hc2) (by omega)
        have hO2 := hO.keep (M := 0) (KCe.of_cells hc2)
        obtain ⟨_, p, i, hA⟩ := hO2
        obtain ⟨a0, a1, _⟩ := hA.cells
        have hkl : k < L.length := (List.getElem?_eq_some_iff.1 HK.out).1
        have hps : ((L.take k).map (pq n2)).length = k := by simp; omega
        obtain ⟨ps, hpe⟩ : ∃ ps, (L.take k).map (pq n2) = ps := ⟨_, rfl⟩
        rw [hpe] at hI2 hps
        have hpn : Hid ((L.take (k + 1)).map (pq n2) = ps ++ [(x.1 / n2, x.1 % n2)]) := by
          show _ = _
          rw [List.take_add_one, HK.out, ← hpe]
          simp [pq]
        obtain ⟨xs, hxs⟩ : ∃ xs, x.1 / n2 = xs := ⟨_, rfl⟩
        obtain ⟨xt, hxt⟩ : ∃ xt, x.1 % n2 = xt := ⟨_, rfl⟩
        rw [hxs, hxt] at hpn
        rw [hxs] at a0
        rw [hxt] at a1
        subst hps
        have HI2 := Lib.hid hI2
        have HA0 := Lib.hid a0
        have HA1 := Lib.hid a1
        have HKL := Lib.hid hkl
        clear hc2 hO hI hA hpe hxs hxt hI2 a0 a1 hkl
        gi_wp2
        have hgg := HI2.out.hg
        have hgM := HI2.out.hM
        have hgW := HI2.out.hW
        refine rel_region HI2.out.bx.1 HI2.out.bx.2 HA0.out HA1.out HI2.out.own (by have := HKL.out; omega) hgW (by omega) (fun G hG e => by have := (HI2.out.own.lt G hG).1; omega) ?_
        intro g' c' w1 ho hgr hc9 hf9
        obtain ⟨r1, r2⟩ := HI2.out.step (s := xs) (t := xt) ho hgr
        exact ⟨⟨_, by rw [hpn.out]; exact r1⟩, by rw [hzl]; exact r2⟩
      case done =>
        rintro N W hN ⟨V, hI⟩ hd
        have htk : (L.take L.length).map (pq n2) = L.map (pq n2) := by rw [List.take_length]
        rw [htk] at hI
        obtain ⟨ps, hpe⟩ : ∃ ps, L.map (pq n2) = ps := ⟨_, rfl⟩
        rw [hpe] at hI
        have hpl : ps.length = L.length := by rw [← hpe]; simp
        have hp0 : 0 < ps.length := by
          rw [hpl]
          exact (List.getElem?_eq_some_iff.1 hBF.out.hd).1
        have HPE := Lib.hid hpe
        rcases hI.own.2 with ⟨_, h0⟩ | ⟨gv, cv, cur, rfl, hgb, hgh, hcv, hcm, _, _⟩
        · omega
        have hgg := hI.hg
        have hgM := hI.hM
        have hgW := hI.hW
        have hNg : N ≠ gv := by
          rintro rfl
          rw [hd] at hgh
          cases hgh
        have HPL := Lib.hid (hpl.trans rfl)
        have hs := esort_any (g + 3) gv ps.length cv ps W hI.own rfl hp0 (by omega)
        have HS := Lib.hid hs
        have HI2 := Lib.hid hI
        have x9 := hI.bx.1
        have HD := Lib.hid hd
        have hdl := heap_lt hd
        clear hs hI hG hPl hd htk hpe hgh hpl
        simp only [marked]
        gi_wp2_with fail
        refine wide_calls HS.out ?_
        rintro e w5 ⟨rfl, qs, hqp, hqw, hqr, hgr⟩
        have hL5 : ∀ b, b < W.heap.size → b ≠ gv → w5.heap[b]? = W.heap[b]? := fun b hb hne => hgr.block b hb (by intro e; injection e with e; exact hne e)
        have hbx5 : w5.cell? ⟨g, 0, none⟩ = some (.slice (some ⟨gv, 0, none⟩) ps.length cv) := (World.cell?_of_block (w := W) (a := ⟨g, 0, none⟩) (hL5 g (by omega) (by omega))).trans HI2.out.bx.1
        have hb5 : Below w.heap.size w w5 := HI2.out.bel.grown hgr HI2.out.bel.size (fun j e => by injection e with e; have := HI2.out.hh; omega)
        have hd5 : w5.heap[N]? = some (.deferred (some [])) := (hL5 N hdl hNg).trans HD.out
        have hcE : CelE (g + 3) w5 (w5.putObj N (.deferred none)) := CelE.put (B := g + 3) (.deferred none) hd5 rfl (by omega)
        have HBF5 := Lib.hid (hcE.below (C := w.heap.size) (by have := HI2.out.hh; omega) hb5)
        have HQR := Lib.hid (rdP_celE hqr hcE)
        have HD5 := Lib.hid hd5
        have HQP := Lib.hid hqp
        have HQW := Lib.hid hqw
        clear hL5 hb5 hcE hgr hqr hqp hqw hd5 x9
        gi_wp2_with fail
        refine wide_calls (pclip_any gv ps.length cv w5 hcv) ?_
        rintro e w6 ⟨rfl, rfl⟩
        gi_wp2_with fail
        refine ⟨by simp, .inl ⟨_, _, rfl, run_takeDeferred HD5.out, ?_⟩⟩
        refine ⟨.tuple #[.slice (some ⟨gv, 0, none⟩) ps.length ps.length, .bool true, .int .i64 0], ?_, HBF5.out, _, _, true, 0, rfl, HZ.out, Or.inl ⟨rfl, rfl, hsim.out, qs, ?_, HQW.out.imp (fun h => by omega), HQR.out, ?_⟩⟩
        · simp [results, Try.f53, go_sem]
        · rw [HN2.out, HLE.out, HPE.out]
          exact HQP.out
        · exact HQP.out.length_eq
      case stop =>
        rintro N c' W hN hF hd
        exact hF.elim
  · have hzb : (z == 0) = false := by rw [beq_eq_false_iff_ne]; exact h0
    obtain rfl := HZF.out h0
    have H0 := Lib.hid h0
    have hzn : (z != 0) = true := by simpa using h0
    clear h0
    gi_wp2_with fail
    refine ⟨.tuple #[.slice none 0 0, .bool false, .int .i64 z], ?_, HBW.out, none, 0, false, z, rfl, HZ.out, Or.inr ⟨rfl, rfl, rfl, fun h => absurd h H0.out⟩⟩
    simp [results, Try.f53, go_sem]
end Go.Proofs.Ytiamkkgnjobljaa
