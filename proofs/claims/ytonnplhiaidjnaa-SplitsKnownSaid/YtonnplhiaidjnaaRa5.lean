/-
  Contracts: refines.Rounds.
-/
import Derived.Test.YtonnplhiaidjnaaRa4
namespace Go.Proofs.Ytonnplhiaidjnaa
open Go.RowKit
open Mc (Ed Ma)
attribute [local go_sem] Oper.semAt_some

namespace Mc
/-- What Rounds gives: the list and the error. -/
noncomputable def rdE (m : Ma) (k : Int) : Int := if chk m = 0 then (if k < 0 then 1 else 0) else chk m
noncomputable def rdV (m : Ma) (k : Int) : List Int := if chk m = 0 then (if k < 0 then [] else rnd m k.toNat) else []
end Mc

/-- Where the loop over partitions keeps the last one. -/
def LastP (D : Nat → Prop) (r n j : Nat) (m : Ma) (W : World) : Prop := ∃ v, Box W r v ∧ (j = 0 ∨ ∃ b, v = .slice (some ⟨b, 0, none⟩) n n ∧ OwnL D W b (Mc.rnd m (j - 1)))
theorem Cells.kc {D : Nat → Prop} {B : Nat} {W W' : World} (h : Cells B W W') : KC D W W' := KC.of_cells h
theorem LastP.cells {D : Nat → Prop} {r n j B : Nat} {m : Ma} {W W' : World} (h : LastP D r n j m W) (k : Cells B W W') : LastP D r n j m W' := by
  obtain ⟨v, hb, h⟩ := h
  refine ⟨v, hb.cells k, ?_⟩
  rcases h with h | ⟨b, e, h⟩
  · exact .inl h
  · exact .inr ⟨b, e, h.keep (KC.of_cells k)⟩

set_option maxRecDepth 100000 in
set_option maxHeartbeats 4000000 in
theorem rounds_any (i o : Int) (rs : List (List Ed)) (A : Option Addr) (n c : Nat) (k : Int) (w : World) (hr : RdR w A rs) (hn : rs.length = n) (hnb : n ≤ 1000000) (hrl : ∀ row ∈ rs, row.length ≤ 1000000) :
    Calls Try.prog 20 #[.agg #[.int .i64 i, .int .i64 o, .slice A n c], .int .i64 k] w (Made w (Mc.rdV ⟨i, o, rs⟩ k) (Mc.rdE ⟨i, o, rs⟩ k)) := by
  have EB : Below w.heap.size w ((w.alloc (.cells #[.int .i64 i, .int .i64 o, .slice A n c] 27)).alloc (.cells #[.int .i64 k] 3)) := ((Below.refl _ _).alloc (Nat.le_refl _) _).alloc (by simp) _
  have hr0 := hr.below EB
  have C1 := pcheck_any i o rs A n c _ hr0 hn hnb hrl
  have HM := Lib.hid ((BxM.new w i o A n c).mvB ((Below.refl _ _).alloc (Nat.le_refl _) (.cells #[.int .i64 k] 3)))
  have HB := Lib.hid EB
  have HK : Hid (Box ((w.alloc (.cells #[.int .i64 i, .int .i64 o, .slice A n c] 27)).alloc (.cells #[.int .i64 k] 3)) (w.heap.size + 1) (.int .i64 k)) := Box.new_ (by simp) _ _
  have hz0 : ((w.alloc (.cells #[.int .i64 i, .int .i64 o, .slice A n c] 27)).alloc (.cells #[.int .i64 k] 3)).heap.size = w.heap.size + 2 := by simp
  clear hr0 EB
  by_cases hch : Mc.chk ⟨i, o, rs⟩ = 0
  · rw [hch] at C1
    have v := Mc.val_of hch
    by_cases hk0 : k < 0
    · have he : Hid (Mc.rdE ⟨i, o, rs⟩ k = 1) := by simp [Hid, Mc.rdE, hch, hk0]
      have hv : Hid (Mc.rdV ⟨i, o, rs⟩ k = []) := by simp [Hid, Mc.rdV, hch, hk0]
      have HV := Lib.hid v
      clear hch v hz0
      go_enter Try.func20, Try.ntmps20
      obtain ⟨x0, x1, x2⟩ := BxM.cells HM.out
      have x3 := HK.out.1
      go_wp2_with fail
      clear x0 x1 x2 x3
      refine C1.mono ?_
      rintro e w1 ⟨rfl, hb1⟩
      obtain ⟨x3, _⟩ := HK.out.below hb1
      have hbF := Lib.hid (below_next HB.out hb1)
      go_wp2_with fail
      go_ret2
      exact Made.mk hv.out he.out rfl Rd.nil_ hbF.out
    · have he : Hid (Mc.rdE ⟨i, o, rs⟩ k = 0) := by simp [Hid, Mc.rdE, hch, hk0]
      have hv : Hid (Mc.rdV ⟨i, o, rs⟩ k = Mc.rnd ⟨i, o, rs⟩ k.toNat) := by simp [Hid, Mc.rdV, hch, hk0]
      clear hch
      have HV := Lib.hid v
      clear v
      obtain ⟨m, _⟩ : ∃ m : Nat, True := ⟨3, trivial⟩
      refine (callsIn_wide (n := m)).1 ?_
      refine callsIn_of_wp_marks Try.func20 rfl trivial ?_
      simp only [Try.ntmps20, List.size_toArray, List.length_cons, List.length_nil, Nat.reduceAdd, Nat.reduceSub, Array.replicate_succ, Array.replicate_zero, List.push_toArray, List.append_toArray, List.nil_append, List.cons_append]
      obtain ⟨x0, x1, x2⟩ := BxM.cells HM.out
      have x3 := HK.out.1
      gi_wp2_with fail
      clear x0 x1 x2 x3
      refine wide_calls C1 ?_
      rintro e w1 ⟨rfl, hb1⟩
      have hM1 : BxM w1 w.heap.size i o A n c := HM.out.mvB hb1
      have hK1 := HK.out.below hb1
      have hb1' := below_next HB.out hb1
      have hz1 := hb1.size
      have hM2 : BxM (w1.alloc (.cells #[.slice none 0 0] 29)) w.heap.size i o A n c := hM1.mvB ((Below.refl _ _).alloc (Nat.le_refl _) _)
      obtain ⟨y0, y1, y2⟩ := BxM.cells hM2
      have y3 := hK1.1
      clear C1
      gi_wp2_with fail
      clear y0 y1 y2 y3 hM2 hb1
      refine wide_calls (partitions_any _ _ _ _ _ _) ?_
      rintro e w2 ⟨rfl, rfl⟩
      gi_wp2_with fail
      obtain ⟨r, hr'⟩ : ∃ r, w1.heap.size = r := ⟨_, rfl⟩
      have hrb : w.heap.size + 2 ≤ r := by omega
      have qa : Below w1.heap.size w1 (w1.alloc (.cells #[.slice none 0 0] 29)) := (Below.refl _ _).alloc (Nat.le_refl _) _
      have qb : Below w1.heap.size w1 (boxM (w1.alloc (.cells #[.slice none 0 0] 29)) i o A n c) := qa.alloc (by simp) _
      have hbx : BxM (boxM (w1.alloc (.cells #[.slice none 0 0] 29)) i o A n c) (r + 1) i o A n c := by
        have := BxM.new (w1.alloc (.cells #[.slice none 0 0] 29)) i o A n c
        rw [World.size_alloc, hr'] at this
        exact this
      have hLs : LastP (fun b => b = r) r n 0 ⟨i, o, rs⟩ (boxM (w1.alloc (.cells #[.slice none 0 0] 29)) i o A n c) := ⟨.slice none 0 0, (Box.new_ hr' _ _).alloc _, .inl rfl⟩
      have hKb := hK1.below qb
      have hbB := below_next hb1' qb
      have hsB : (boxM (w1.alloc (.cells #[.slice none 0 0] 29)) i o A n c).heap.size = r + 2 := by simp; omega
      try rw [hr']
      try rw [World.size_alloc, hr']
      obtain ⟨X, hX⟩ : ∃ X, boxM (w1.alloc (.cells #[.slice none 0 0] 29)) i o A n c = X := ⟨_, rfl⟩
      rw [hX] at hbx hLs hKb hbB hsB ⊢
      clear hX qa qb hM1 hK1 hb1' hz1 HM HB HK hr' hz0
      have hG := partitions1_gives (m - 1) (r + 1) ⟨i, o, rs⟩ i o A n c (fun b => b = r) w X HV.out rfl hr hn hbB hbx (by show ¬ _ = _; omega) (fun b h => by show w.heap.size ≤ b; omega) (fun b h => by show b < _; omega)
      refine range_parts (m := m) 75 _ rfl (enters_of Try.func75 (by kernel_rfl) rfl) n (Mc.prts ⟨i, o, rs⟩) (fun b => b = r) (fun b h => by show b < _; omega) rfl hG
        (fun j W => Below w.heap.size w W ∧ Box W (w.heap.size + 1) (.int .i64 k) ∧ Hid (j ≤ k.toNat) ∧ Hid (LastP (fun b => b = r) r n j ⟨i, o, rs⟩ W))
        (fun c' W => c' = .exit 0 ∧ Below w.heap.size w W ∧ Hid (LastP (fun b => b = r) r n (k.toNat + 1) ⟨i, o, rs⟩ W))
        (fun j A B h q => ⟨q.below (by omega) h.1, h.2.1.cells q, h.2.2.1, h.2.2.2.out.cells q⟩) (fun c' A B h q => ⟨h.1, q.below (by omega) h.2.1, h.2.2.out.cells q⟩) ⟨hbB, hKb, Nat.zero_le _, hLs⟩ ?round ?done ?stop
      case round =>
        intro l j x b W hj hW hI hO
        obtain ⟨hbW, hKW, hjk, hLW⟩ := hI
        have HJ : Hid (x = Mc.rnd ⟨i, o, rs⟩ j) := by
          have h := Mc.prts_len ⟨i, o, rs⟩
          have hl := (List.getElem?_eq_some_iff.1 hj).1
          rw [Mc.prts_at (by omega)] at hj
          injection hj with hj
          exact hj.symm
        have HO := Lib.hid hO
        simp only [wpp]
        clear hj hO hG hLs hKb hbB hbx
        gi_wp2_with fail
        refine ⟨Below.refl _ _, fun W2 hc2 => ?_⟩
        have hbW2 := hc2.below (by omega) hbW
        have hKW2 := hKW.cells hc2
        obtain ⟨u, hu, _⟩ := hLW.out.cells hc2
        have HO2 := Lib.hid (HO.out.keep (KC.of_cells hc2))
        have x3 := (hKW2.far (c := r) (by omega) (o := 0) (.slice (some ⟨b, 0, none⟩) n n)).1
        have x4 := hu.1
        have x5 := hu.2
        have hL2 : Hid (LastP (fun b => b = r) r n (j + 1) ⟨i, o, rs⟩ (W2.setCell ⟨r, 0, none⟩ (.slice (some ⟨b, 0, none⟩) n n))) := by
          refine ⟨_, hu.set_ _, .inr ⟨b, rfl, ?_⟩⟩
          rw [Nat.add_sub_cancel, ← HJ.out]
          exact HO2.out.keep (KC.of_all (KA.one _ _ _))
        have hb2 := hbW2.setCell (p := ⟨r, 0, none⟩) (by show _ ≤ r; omega) (.slice (some ⟨b, 0, none⟩) n n)
        have hK2 := hKW2.far (c := r) (by omega) (o := 0) (.slice (some ⟨b, 0, none⟩) n n)
        have HB2 := Lib.hid hb2
        have HK2 := Lib.hid hK2
        clear hc2 hbW hKW hLW hb2 hK2 hbW2 hKW2 hu HO HO2
        have HKA := Lib.hid (KA.one W2 r (.slice (some ⟨b, 0, none⟩) n n) (off := 0))
        by_cases hjk2 : (j : Int) = k
        · have t1 : ((j : Int) == k) = true := by rw [hjk2]; simp
          have R : roundP (fun b => b = r) (fun j W => Below w.heap.size w W ∧ Box W (w.heap.size + 1) (.int .i64 k) ∧ Hid (j ≤ k.toNat) ∧ Hid (LastP (fun b => b = r) r n j ⟨i, o, rs⟩ W))
              (fun c' W => c' = .exit 0 ∧ Below w.heap.size w W ∧ Hid (LastP (fun b => b = r) r n (k.toNat + 1) ⟨i, o, rs⟩ W)) j W2 (.exit 0) ⟨#[], []⟩ (W2.setCell ⟨r, 0, none⟩ (.slice (some ⟨b, 0, none⟩) n n)) :=
            ⟨⟨rfl, HB2.out, by have : k.toNat = j := by omega
                               rw [this]; exact hL2⟩, HKA.out⟩
          have RH := Lib.hid R
          clear R hjk2
          gi_wp2_with fail
          exact RH.out
        · have t1 : ((j : Int) == k) = false := by rw [beq_eq_false_iff_ne]; exact hjk2
          have R : roundP (fun b => b = r) (fun j W => Below w.heap.size w W ∧ Box W (w.heap.size + 1) (.int .i64 k) ∧ Hid (j ≤ k.toNat) ∧ Hid (LastP (fun b => b = r) r n j ⟨i, o, rs⟩ W))
              (fun c' W => c' = .exit 0 ∧ Below w.heap.size w W ∧ Hid (LastP (fun b => b = r) r n (k.toNat + 1) ⟨i, o, rs⟩ W)) j W2 .normal ⟨#[], []⟩ (W2.setCell ⟨r, 0, none⟩ (.slice (some ⟨b, 0, none⟩) n n)) :=
            ⟨⟨HB2.out, HK2.out, by have := hjk.out; show _ ≤ _; omega, hL2⟩, HKA.out⟩
          have RH := Lib.hid R
          clear R hjk2
          gi_wp2_with fail
          exact RH.out
      case done =>
        intro N W hN ⟨hbW, _, hjk, hLW⟩ hd
        have hjk' := hjk.out
        rw [Mc.prts_len] at hjk'
        obtain ⟨u, hu, hL⟩ := hLW.out
        rw [Mc.prts_len, Nat.add_sub_cancel] at hL
        obtain ⟨b, rfl, hO⟩ := hL.resolve_left (by omega)
        have hrk : Mc.rnd ⟨i, o, rs⟩ (Mc.lst ⟨i, o, rs⟩) = Mc.rnd ⟨i, o, rs⟩ k.toNat := (Mc.rnd_from (Mc.lst_lst HV.out.r0).last (by omega)).symm
        rw [hrk] at hO
        have hc2 : Cells w.heap.size W (W.putObj N (.deferred none)) := Cells.put _ hd rfl (by omega)
        have hO2 := Lib.hid (hO.keep (KC.of_cells hc2))
        have hbF := Lib.hid (hc2.below (Nat.le_refl _) hbW)
        have x7 := hu.1
        have HD := Lib.hid hd
        simp only [marked]
        clear hbW hjk hLW hO hrk hc2 hjk' hu hL hG hd
        gi_wp2_with fail
        refine ⟨by simp, .inl ⟨_, _, rfl, run_takeDeferred HD.out, ?_⟩⟩
        refine ⟨.tuple #[.slice (some ⟨b, 0, none⟩) n n, .int .i64 0], ?_, ?_⟩
        · simp [results, Try.f20, go_sem]
        · exact Made.mk hv.out he.out (by rw [Mc.rnd_len]; exact hn) hO2.out.2.2 hbF.out
      case stop =>
        rintro N c' W hN ⟨rfl, hbW, hLW⟩ hd
        obtain ⟨u, hu, hL⟩ := hLW.out
        rw [Nat.add_sub_cancel] at hL
        obtain ⟨b, rfl, hO⟩ := hL.resolve_left (by omega)
        have hc2 : Cells w.heap.size W (W.putObj N (.deferred none)) := Cells.put _ hd rfl (by omega)
        have hO2 := Lib.hid (hO.keep (KC.of_cells hc2))
        have hbF := Lib.hid (hc2.below (Nat.le_refl _) hbW)
        have x7 := hu.1
        have HD := Lib.hid hd
        simp only [marked]
        clear hbW hLW hO hc2 hu hL hG hd
        gi_wp2_with fail
        refine ⟨by simp, .inl ⟨_, _, rfl, run_takeDeferred HD.out, ?_⟩⟩
        refine ⟨.tuple #[.slice (some ⟨b, 0, none⟩) n n, .int .i64 0], ?_, ?_⟩
        · simp [results, Try.f20, go_sem]
        · exact Made.mk hv.out he.out (by rw [Mc.rnd_len]; exact hn) hO2.out.2.2 hbF.out
  · have he : Hid (Mc.rdE ⟨i, o, rs⟩ k = Mc.chk ⟨i, o, rs⟩) := by simp [Hid, Mc.rdE, hch]
    have hv : Hid (Mc.rdV ⟨i, o, rs⟩ k = []) := by simp [Hid, Mc.rdV, hch]
    obtain ⟨f, hf⟩ : ∃ f, Mc.chk ⟨i, o, rs⟩ = f := ⟨_, rfl⟩
    rw [hf] at he C1 hch
    have h2 : (f != 0) = true := by simp [hch]
    clear hf hch hz0
    go_enter Try.func20, Try.ntmps20
    obtain ⟨x0, x1, x2⟩ := BxM.cells HM.out
    go_wp2_with fail
    clear x0 x1 x2
    refine C1.mono ?_
    rintro e w1 ⟨rfl, hb1⟩
    have hbF := Lib.hid (below_next HB.out hb1)
    go_wp2_with fail
    go_ret2
    exact Made.mk hv.out he.out rfl Rd.nil_ hbF.out
end Go.Proofs.Ytonnplhiaidjnaa
