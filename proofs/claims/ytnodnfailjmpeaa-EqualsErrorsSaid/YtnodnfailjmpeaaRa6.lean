/-
  Contracts: refines.Classes.
-/
import Derived.Test.YtnodnfailjmpeaaRa5
import Derived.BigRegionIn
namespace Go.Proofs.Ytnodnfailjmpeaa
open Go.RowKit
open Mc (Ed Ma)
attribute [local go_sem] Oper.semAt_some

namespace Mc
/-- What Classes gives: the list and the number of rounds. -/
noncomputable def clV (m : Ma) : List Int := if chk m = 0 then cls m else []
noncomputable def clN (m : Ma) : Int := if chk m = 0 then lst m else 0
end Mc
def Clsd (w : World) (zs : List Int) (k f : Int) (e : Ending) (w' : World) : Prop := ∃ A, e = .returned (.tuple #[.slice A zs.length zs.length, .int .i64 k, .int .i64 f]) ∧ Rd w' A zs ∧ Below w.heap.size w w'
theorem Clsd.mk {w w' : World} {zs xs : List Int} {k j f g : Int} {A : Option Addr} {m : Nat} (h1 : xs = zs) (h2 : g = f) (h3 : j = k) (hm : zs.length = m) (hr : Rd w' A zs) (hb : Below w.heap.size w w') : Clsd w xs j g (.returned (.tuple #[.slice A m m, .int .i64 k, .int .i64 f])) w' := by
  subst h1 h2 h3 hm
  exact ⟨A, rfl, hr, hb⟩
/-- Where the loop over partitions keeps the last one and its number. -/
def LastQ (D : Nat → Prop) (r q n j : Nat) (m : Ma) (W : World) : Prop := ∃ v u, Box W r v ∧ Box W q u ∧ (j = 0 ∨ ∃ b, v = .slice (some ⟨b, 0, none⟩) n n ∧ u = .int .i64 ((j - 1 : Nat) : Int) ∧ OwnL D W b (Mc.rnd m (j - 1)))
theorem LastQ.cells {D : Nat → Prop} {r q n j B : Nat} {m : Ma} {W W' : World} (h : LastQ D r q n j m W) (k : Cells B W W') : LastQ D r q n j m W' := by
  obtain ⟨v, u, hb, hc, h⟩ := h
  refine ⟨v, u, hb.cells k, hc.cells k, ?_⟩
  rcases h with h | ⟨b, e, f, h⟩
  · exact .inl h
  · exact .inr ⟨b, e, f, h.keep (KC.of_cells k)⟩

set_option maxRecDepth 100000 in
set_option maxHeartbeats 4000000 in
theorem classes_any (i o : Int) (rs : List (List Ed)) (A : Option Addr) (n c : Nat) (w : World) (hr : RdR w A rs) (hn : rs.length = n) (hnb : n ≤ 1000000) (hrl : ∀ row ∈ rs, row.length ≤ 1000000) :
    Calls Try.prog 71 #[.agg #[.int .i64 i, .int .i64 o, .slice A n c]] w (Clsd w (Mc.clV ⟨i, o, rs⟩) (Mc.clN ⟨i, o, rs⟩) (Mc.chk ⟨i, o, rs⟩)) := by
  obtain ⟨V, hV⟩ : ∃ V, ((w.alloc (.cells #[.int .i64 i, .int .i64 o, .slice A n c] 24)).alloc (.cells #[.slice none 0 0] 32)).alloc (.cells #[.int .i64 0] 3) = V := ⟨_, rfl⟩
  have qa : Below (w.heap.size + 1) (w.alloc (.cells #[.int .i64 i, .int .i64 o, .slice A n c] 24)) V := by rw [← hV]; exact ((Below.refl _ _).alloc (by simp) _).alloc (by simp) _
  have EB : Below w.heap.size w V := ((Below.refl _ _).alloc (Nat.le_refl _) _).trans (qa.mono (by omega))
  have hr0 := hr.below EB
  have C1 := pcheck_any i o rs A n c V hr0 hn hnb hrl
  have HM : Hid (BxM V w.heap.size i o A n c) := (qa.block _ (by omega)).trans (BxM.new w i o A n c)
  have HB := Lib.hid EB
  have HP : Hid (Box V (w.heap.size + 1) (.slice none 0 0)) := by show Box _ _ _; rw [← hV]; exact (Box.new_ (by simp) _ _).alloc _
  have HQ : Hid (Box V (w.heap.size + 1 + 1) (.int .i64 0)) := by show Box _ _ _; rw [← hV]; exact Box.new_ (by simp) _ _
  have hz0 : V.heap.size = w.heap.size + 3 := by rw [← hV]; simp
  clear hr0 EB qa
  by_cases hch : Mc.chk ⟨i, o, rs⟩ = 0
  · rw [hch] at C1
    have v := Mc.val_of hch
    have he : Hid (Mc.clN ⟨i, o, rs⟩ = Mc.lst ⟨i, o, rs⟩) := by simp [Hid, Mc.clN, hch]
    have hv : Hid (Mc.clV ⟨i, o, rs⟩ = Mc.rnd ⟨i, o, rs⟩ (Mc.lst ⟨i, o, rs⟩)) := by simp [Hid, Mc.clV, hch, Mc.cls]
    have hc0 := Lib.hid hch
    clear hch
    have HV := Lib.hid v
    clear v
    obtain ⟨m, _⟩ : ∃ m : Nat, True := ⟨3, trivial⟩
    refine (callsIn_wide (n := m)).1 ?_
    refine callsIn_of_wp_marks Try.func71 rfl trivial ?_
    simp only [Try.ntmps71, List.size_toArray, List.length_cons, List.length_nil, Nat.reduceAdd, Nat.reduceSub, Array.replicate_succ, Array.replicate_zero, List.push_toArray, List.append_toArray, List.nil_append, List.cons_append]
    obtain ⟨x0, x1, x2⟩ := BxM.cells HM.out
    gi_wp2_with fail
    try rw [hV]
    clear x0 x1 x2 hV
    refine wide_calls C1 ?_
    rintro e w1 ⟨rfl, hb1⟩
    have hM1 : BxM w1 w.heap.size i o A n c := HM.out.mvB hb1
    have hb1' := below_next HB.out hb1
    have hz1 := hb1.size
    have p1 := HP.out.below hb1
    have q1 := HQ.out.below hb1
    obtain ⟨y0, y1, y2⟩ := BxM.cells hM1
    clear C1
    gi_wp2_with fail
    clear y0 y1 y2
    refine wide_calls (partitions_any _ _ _ _ _ _) ?_
    rintro e w2 ⟨rfl, rfl⟩
    gi_wp2_with fail
    obtain ⟨c0, hc0'⟩ : ∃ c0, w1.heap.size = c0 := ⟨_, rfl⟩
    have hrb : w.heap.size + 3 ≤ c0 := by omega
    have qb : Below w1.heap.size w1 (boxM w1 i o A n c) := (Below.refl _ _).alloc (Nat.le_refl _) _
    have hbx : BxM (boxM w1 i o A n c) c0 i o A n c := BxM.newE hc0' i o A n c
    have hLs : LastQ (fun b => b = w.heap.size + 1 ∨ b = w.heap.size + 1 + 1) (w.heap.size + 1) (w.heap.size + 1 + 1) n 0 ⟨i, o, rs⟩ (boxM w1 i o A n c) := ⟨_, _, p1.below qb, q1.below qb, .inl rfl⟩
    have hbB := below_next hb1' qb
    have hsB : (boxM w1 i o A n c).heap.size = c0 + 1 := by simp; omega
    try rw [hc0']
    obtain ⟨X, hX⟩ : ∃ X, boxM w1 i o A n c = X := ⟨_, rfl⟩
    rw [hX] at hbx hLs hbB hsB ⊢
    clear hX qb hM1 hb1' hz1 HM HB HP HQ hc0' hz0 p1 q1 hb1
    have hG := partitions1_gives (m - 1) c0 ⟨i, o, rs⟩ i o A n c (fun b => b = w.heap.size + 1 ∨ b = w.heap.size + 1 + 1) w X HV.out rfl hr hn hbB hbx (by show ¬ (_ ∨ _); omega) (fun b h => by show w.heap.size ≤ b; omega) (fun b h => by show b < _; omega)
    refine range_parts (m := m) 119 _ rfl (enters_of Try.func119 (by kernel_rfl) rfl) n (Mc.prts ⟨i, o, rs⟩) (fun b => b = w.heap.size + 1 ∨ b = w.heap.size + 1 + 1) (fun b h => by show b < _; omega) rfl hG
      (fun j W => Below w.heap.size w W ∧ Hid (LastQ (fun b => b = w.heap.size + 1 ∨ b = w.heap.size + 1 + 1) (w.heap.size + 1) (w.heap.size + 1 + 1) n j ⟨i, o, rs⟩ W))
      (fun (_ : Code) (_ : World) => False)
      (fun j A B h q => ⟨q.below (by omega) h.1, h.2.out.cells q⟩) (fun c' A B h q => h) ⟨hbB, hLs⟩ ?round ?done ?stop
    case round =>
      intro l j x b W hj hW hI hO
      obtain ⟨hbW, hLW⟩ := hI
      have HJ : Hid (x = Mc.rnd ⟨i, o, rs⟩ j) := by
        have h := Mc.prts_len ⟨i, o, rs⟩
        have hl := (List.getElem?_eq_some_iff.1 hj).1
        rw [Mc.prts_at (by omega)] at hj
        injection hj with hj
        exact hj.symm
      have HO := Lib.hid hO
      simp only [wpp]
      clear hj hO hG hLs hbB hbx
      gi_wp2_with fail
      refine ⟨Below.refl _ _, fun W2 hc2 => ?_⟩
      have hbW2 := hc2.below (by omega) hbW
      obtain ⟨u, t, hu, ht, _⟩ := hLW.out.cells hc2
      have HO2 := Lib.hid (HO.out.keep (KC.of_cells hc2))
      have x4 := hu.1
      have x5 := hu.2
      have ht2 := ht.far (c := w.heap.size + 1) (by omega) (o := 0) (.slice (some ⟨b, 0, none⟩) n n)
      have x6 := ht2.1
      have x7 := ht2.2
      have hL2 : Hid (LastQ (fun b => b = w.heap.size + 1 ∨ b = w.heap.size + 1 + 1) (w.heap.size + 1) (w.heap.size + 1 + 1) n (j + 1) ⟨i, o, rs⟩ ((W2.setCell ⟨w.heap.size + 1, 0, none⟩ (.slice (some ⟨b, 0, none⟩) n n)).setCell ⟨w.heap.size + 1 + 1, 0, none⟩ (.int .i64 j))) := by
        refine ⟨_, _, (hu.set_ _).far (by omega) _, ht2.set_ _, .inr ⟨b, rfl, rfl, ?_⟩⟩
        rw [Nat.add_sub_cancel, ← HJ.out]
        exact HO2.out.keep (KC.of_all ((KA.set (D := (fun b => b = w.heap.size + 1 ∨ b = w.heap.size + 1 + 1)) _ (.inl rfl) _).trans (KA.set (D := (fun b => b = w.heap.size + 1 ∨ b = w.heap.size + 1 + 1)) _ (.inr rfl) _)))
      have HB2 := Lib.hid ((hbW2.setCell (p := ⟨w.heap.size + 1, 0, none⟩) (by show _ ≤ w.heap.size + 1; omega) (.slice (some ⟨b, 0, none⟩) n n)).setCell (p := ⟨w.heap.size + 1 + 1, 0, none⟩) (by show _ ≤ w.heap.size + 1 + 1; omega) (.int .i64 j))
      have HKA := Lib.hid ((KA.set (D := (fun b => b = w.heap.size + 1 ∨ b = w.heap.size + 1 + 1)) W2 (b := w.heap.size + 1) (off := 0) (.inl rfl) (.slice (some ⟨b, 0, none⟩) n n)).trans (KA.set (D := (fun b => b = w.heap.size + 1 ∨ b = w.heap.size + 1 + 1)) _ (b := w.heap.size + 1 + 1) (off := 0) (.inr rfl) (.int .i64 j)))
      clear hc2 hbW hLW hbW2 hu ht ht2 HO HO2
      have R : roundP (fun b => b = w.heap.size + 1 ∨ b = w.heap.size + 1 + 1) (fun j W => Below w.heap.size w W ∧ Hid (LastQ (fun b => b = w.heap.size + 1 ∨ b = w.heap.size + 1 + 1) (w.heap.size + 1) (w.heap.size + 1 + 1) n j ⟨i, o, rs⟩ W))
          (fun (_ : Code) (_ : World) => False) j W2 .normal ⟨#[], []⟩ ((W2.setCell ⟨w.heap.size + 1, 0, none⟩ (.slice (some ⟨b, 0, none⟩) n n)).setCell ⟨w.heap.size + 1 + 1, 0, none⟩ (.int .i64 j)) :=
        ⟨⟨HB2.out, hL2⟩, HKA.out⟩
      have RH := Lib.hid R
      clear R
      gi_wp2_with fail
      exact RH.out
    case done =>
      intro N W hN ⟨hbW, hLW⟩ hd
      obtain ⟨u, t, hu, ht, hL⟩ := hLW.out
      rw [Mc.prts_len, Nat.add_sub_cancel] at hL
      obtain ⟨b, rfl, rfl, hO⟩ := hL.resolve_left (by omega)
      obtain ⟨K, hK⟩ : ∃ K, Mc.lst ⟨i, o, rs⟩ = K := ⟨_, rfl⟩
      rw [hK] at hO he hv ht
      have x4 := hu.1
      have x5 := hu.2
      have ht2 := ht.far (c := w.heap.size + 1) (by omega) (o := 0) (.slice (some ⟨b, 0, none⟩) n n)
      have x6 := ht2.1
      have x7 := ht2.2
      have x8 := ht.1
      simp only [marked]
      have hP := Lib.hid (hu.set_ (.slice (some ⟨b, 0, none⟩) n n))
      have hT := Lib.hid ht2
      have HO := Lib.hid hO
      have HD := Lib.hid hd
      have HBW := Lib.hid hbW
      clear hLW hL hG hK hu ht ht2 hO hd hbW
      gi_wp2_with fail
      gi_region
      all_goals
        obtain ⟨Z, hZ⟩ : ∃ Z, ((W.setCell ⟨w.heap.size + 1, 0, none⟩ (.slice (some ⟨b, 0, none⟩) n n)).setCell ⟨w.heap.size + 1 + 1, 0, none⟩ (.int .i64 K)).drew = Z := ⟨_, rfl⟩
        rw [hZ]
        have hZP : Box Z (w.heap.size + 1) (.slice (some ⟨b, 0, none⟩) n n) := by rw [← hZ]; exact hP.out.far (by omega) _
        have hZQ : Box Z (w.heap.size + 1 + 1) (.int .i64 K) := by rw [← hZ]; exact hT.out.set_ _
        have hZO : OwnL (fun b => b = w.heap.size + 1 ∨ b = w.heap.size + 1 + 1) Z b (Mc.rnd ⟨i, o, rs⟩ K) := by
          rw [← hZ]
          exact HO.out.keep (KC.of_all ((KA.set (D := (fun b => b = w.heap.size + 1 ∨ b = w.heap.size + 1 + 1)) _ (.inl rfl) _).trans ((KA.set (D := (fun b => b = w.heap.size + 1 ∨ b = w.heap.size + 1 + 1)) _ (.inr rfl) _).trans (KA.drewN _ 1))))
        have hZB : Below w.heap.size w Z := by
          rw [← hZ]
          exact ((HBW.out.setCell (p := ⟨w.heap.size + 1, 0, none⟩) (by show _ ≤ w.heap.size + 1; omega) _).setCell (p := ⟨w.heap.size + 1 + 1, 0, none⟩) (by show _ ≤ w.heap.size + 1 + 1; omega) _).drew
        have hZD : Z.heap[N]? = some (.deferred (some [])) := by
          rw [← hZ]
          exact (Below.heap_setCell _ ⟨w.heap.size + 1 + 1, 0, none⟩ _ N (by show N ≠ w.heap.size + 1 + 1; omega)).trans ((Below.heap_setCell _ ⟨w.heap.size + 1, 0, none⟩ _ N (by show N ≠ w.heap.size + 1; omega)).trans HD.out)
        have hc2 : Cells w.heap.size Z (Z.putObj N (.deferred none)) := Cells.put _ hZD rfl (by omega)
        have hP2 := Lib.hid (hZP.cells hc2)
        have hQ2 := Lib.hid (hZQ.cells hc2)
        have hO2 := Lib.hid (hZO.keep (KC.of_cells hc2))
        have hB2 := Lib.hid (hc2.below (Nat.le_refl _) hZB)
        have HZD := Lib.hid hZD
        clear hZ hZP hZQ hZO hZB hZD hc2 hP hT HO HBW HD x4 x5 x6 x7 x8
        gi_wp2_with fail
        refine ⟨by simp, .inl ⟨_, _, rfl, run_takeDeferred HZD.out, ?_⟩⟩
        refine ⟨.tuple #[.slice (some ⟨b, 0, none⟩) n n, .int .i64 K, .int .i64 0], ?_, ?_⟩
        · simp [results, Try.f71, go_sem, hP2.out.1, hQ2.out.1]
        · exact Clsd.mk hv.out hc0.out he.out (by rw [Mc.rnd_len]; exact hn) hO2.out.2.2 hB2.out
    case stop =>
      rintro N c' W hN h hd
      exact h.elim
  · have he : Hid (Mc.clN ⟨i, o, rs⟩ = 0) := by simp [Hid, Mc.clN, hch]
    have hv : Hid (Mc.clV ⟨i, o, rs⟩ = []) := by simp [Hid, Mc.clV, hch]
    obtain ⟨f, hf⟩ : ∃ f, Mc.chk ⟨i, o, rs⟩ = f := ⟨_, rfl⟩
    rw [hf] at C1 hch ⊢
    have h2 : (f != 0) = true := by simp [hch]
    clear hf hch hz0
    go_enter Try.func71, Try.ntmps71
    obtain ⟨x0, x1, x2⟩ := BxM.cells HM.out
    go_wp2_with fail
    try rw [hV]
    clear x0 x1 x2 hV
    refine C1.mono ?_
    rintro e w1 ⟨rfl, hb1⟩
    have p1 := HP.out.below hb1
    have q1 := HQ.out.below hb1
    have bF := below_next HB.out hb1
    have p2 := (p1.set_ (.slice none 0 0)).far (c := w.heap.size + 1 + 1) (by omega) (o := 0) (.int .i64 0)
    have q2 := (q1.far (c := w.heap.size + 1) (by omega) (o := 0) (.slice none 0 0)).set_ (.int .i64 0)
    have bG := Lib.hid ((bF.setCell (p := ⟨w.heap.size + 1, 0, none⟩) (by show _ ≤ w.heap.size + 1; omega) (.slice none 0 0)).setCell (p := ⟨w.heap.size + 1 + 1, 0, none⟩) (by show _ ≤ w.heap.size + 1 + 1; omega) (.int .i64 0))
    have y0 := p1.1
    have y1 := p1.2
    have y2 := (q1.far (c := w.heap.size + 1) (by omega) (o := 0) (.slice none 0 0)).1
    have y3 := (q1.far (c := w.heap.size + 1) (by omega) (o := 0) (.slice none 0 0)).2
    have P2 := Lib.hid p2
    have Q2 := Lib.hid q2
    clear p1 q1 p2 q2 bF hb1 C1
    go_wp2_with fail
    refine bodyPost_ret (v := .tuple #[.slice none 0 0, .int .i64 0, .int .i64 f]) ?_ rfl ?_
    rotate_left
    · exact Clsd.mk hv.out rfl he.out rfl Rd.nil_ bG.out
    · simp [results, Try.f71, go_sem, P2.out.1, Q2.out.1]
end Go.Proofs.Ytnodnfailjmpeaa
