/-
  The walk of the law SplitsKnown. No statement is proved here.
-/
import Derived.Test.YtonnplhiaidjnaaKnC
import Derived.Test.YtonnplhiaidjnaaSnM
import Derived.Test.YtonnplhiaidjnaaSr1
import Derived.Test.YtonnplhiaidjnaaSr2
import Derived.Test.YtonnplhiaidjnaaSr3
import Derived.Test.YtonnplhiaidjnaaSr4
import Derived.Test.YtonnplhiaidjnaaSr5
namespace Go.Proofs.Ytonnplhiaidjnaa
open Go.RowKit
open Mc (Ed Ma)

section
variable (A : Option Addr) (n c : Nat) (w : World)
theorem kcHeight (h1 : 1 ≤ n) (h2 : n ≤ 64) (hr : RdR w A (Mc.ch2 n).r) :
    Calls Try.prog 41 #[.agg #[.int .i64 2, .int .i64 2, .slice A n c]] w fun e w' => e = .returned (.tuple #[.int .i64 ((n : Int) - 1), .int .i64 0]) ∧ Below w.heap.size w w' := by
  have h := height_ok (Mc.ch2 n) 2 2 A n c w (Mc.ch2_val h1 h2) rfl rfl (Mc.ch2_len n) hr
  rw [Mc.ch2_hgt h1 h2, show ((n - 1 : Nat) : Int) = (n : Int) - 1 by omega] at h
  exact h
theorem kcSep1 (h2 : n = 1) (hr : RdR w A (Mc.ch2 n).r) :
    Calls Try.prog 33 #[.agg #[.int .i64 2, .int .i64 2, .slice A n c], .int .i64 0, .int .i64 ((n : Int) - 1)] w fun e w' => ∃ B, e = .returned (.tuple #[.slice B 0 0, .bool false, .int .i64 0]) ∧ Below w.heap.size w w' := by
  subst h2
  refine (separate_ok (Mc.ch2 1) 2 2 A 1 c w 0 0 0 (Mc.ch2_val (by omega) (by omega)) rfl rfl (Mc.ch2_len 1) hr (by omega) (by omega) (Mc.sl_same _ _)).mono ?_
  rintro e w' ⟨B, rfl, _, h⟩
  exact ⟨_, rfl, h⟩
theorem kcSep2 (h1 : 2 ≤ n) (h2 : n ≤ 64) (hr : RdR w A (Mc.ch2 n).r) :
    Calls Try.prog 33 #[.agg #[.int .i64 2, .int .i64 2, .slice A n c], .int .i64 0, .int .i64 ((n : Int) - 1)] w fun e w' => ∃ B, e = .returned (.tuple #[.slice (some ⟨B, 0, none⟩) 1 1, .bool true, .int .i64 0]) ∧ w'.cell? ⟨B, 0, none⟩ = some (.int .i64 1) ∧ Below w.heap.size w w' := by
  obtain ⟨h3, h4⟩ := Mc.ch2_word h1 h2
  have h := separate_ok (Mc.ch2 n) 2 2 A n c w 0 (n - 1) 1 (Mc.ch2_val (by omega) h2) rfl rfl (Mc.ch2_len n) hr (by omega) (by omega) h3
  rw [show ((n - 1 : Nat) : Int) = (n : Int) - 1 by omega, h4] at h
  refine h.mono ?_
  rintro e w' ⟨B, rfl, h5, h6⟩
  obtain ⟨b, o, z, e1, _, e2, e3⟩ := h5.at_ (k := 0) (by decide)
  injection e1 with e1
  injection e1 with e1 e4
  subst e1 e4
  have e5 : z = 1 := e3.out.symm
  subst e5
  exact ⟨B, rfl, e2, h6⟩
end
section
variable (a b d : Int) (p : Bool) (A : Option Addr) (n c : Nat) (es : List Int) (w : World) (hr : Rd16 w A es) (hn : es.length = n) (hl : n ≤ 1000) (ha : 0 ≤ a ∧ a ≤ 255) (hb : 0 ≤ b ∧ b ≤ 255) (hd : 0 ≤ d ∧ d ≤ 255)
include hr hn hl ha hb hd
theorem kSep (x0 x1 : Int) (h0 : 0 ≤ x0 ∧ x0 ≤ 255) (h1 : 0 ≤ x1 ∧ x1 ≤ 255) : Calls Try.prog 7 #[.agg #[.int .u8 a, .int .u8 b, .int .u8 d, .bool p, .slice A n c], .agg #[.int .u8 x0, .int .u8 x1]] w fun e w' => e = .returned (.bool true) ∧ Below w.heap.size w w' := by
  subst hn
  exact lawSep_walk a b d p A c es x0 x1 w hr (by omega) ha hb hd h0 h1
theorem kSeps (Y : Option Addr) (yl yc : Nat) (ys : List Int) (hy : Rd8 w Y ys) (hyl : ys.length = yl) (Z : Option Addr) (zl zc : Nat) (zs : List Int) (hz : Rd8 w Z zs) (hzl : zs.length = zl) (x0 x1 x2 : Int) (h0 : 0 ≤ x0 ∧ x0 ≤ 255) (h1 : 0 ≤ x1 ∧ x1 ≤ 255) (h2 : 0 ≤ x2 ∧ x2 ≤ 255) (g1 : yl ≤ 1000) (g2 : zl ≤ 1000) : Calls Try.prog 8 #[.agg #[.int .u8 a, .int .u8 b, .int .u8 d, .bool p, .slice A n c], .agg #[.slice Y yl yc, .slice Z zl zc], .agg #[.int .u8 x0, .int .u8 x1, .int .u8 x2]] w fun e w' => e = .returned (.bool true) ∧ Below w.heap.size w w' := by
  subst hn hyl hzl
  exact lawSeps_walk a b d p A c es Y Z yc zc ys zs x0 x1 x2 w hr hy hz (by omega) (by omega) (by omega) ha hb hd h0 h1 h2
theorem kTab : Calls Try.prog 9 #[.agg #[.int .u8 a, .int .u8 b, .int .u8 d, .bool p, .slice A n c]] w fun e w' => e = .returned (.bool true) ∧ Below w.heap.size w w' := by
  subst hn
  exact lawTable_walk a b d p A c es w hr (by omega) ha hb hd
theorem kLad : Calls Try.prog 10 #[.agg #[.int .u8 a, .int .u8 b, .int .u8 d, .bool p, .slice A n c]] w fun e w' => e = .returned (.bool true) ∧ Below w.heap.size w w' := by
  subst hn
  exact lawLadder_walk a b d p A c es w hr (by omega) ha hb hd
theorem kAft (B : Option Addr) (m k : Nat) (ws : List Int) (hw : Rd8 w B ws) (hm : ws.length = m) (hl2 : m ≤ 1000) : Calls Try.prog 11 #[.agg #[.int .u8 a, .int .u8 b, .int .u8 d, .bool p, .slice A n c], .agg #[.slice B m k]] w fun e w' => e = .returned (.bool true) ∧ Below w.heap.size w w' := by
  subst hn hm
  exact lawAfter_walk a b d p A c es B k ws w hr hw (by omega) (by omega) ha hb hd
end
set_option maxRecDepth 100000 in
set_option maxHeartbeats 8000000 in
theorem lawKnown8_walk (w : World) :
    Calls Try.prog 13 #[] w fun e w' => e = .returned (.bool true) ∧ Below w.heap.size w w' := by
  obtain ⟨r0, hr0, hr1, hr2, hr3⟩ := info_parts row_info
  go_enter Try.func13, Try.ntmps13
  go_wp2_with fail
  have hw0 : Hid (Below w.heap.size w w) := Below.refl _ _
  go_loopw [1] (fun v wr => ∃ n : Nat, 1 ≤ n ∧ n ≤ 130 ∧ v = .int .i64 n ∧ Hid (Below w.heap.size w wr)) (fun v _ => 131 - (intOf v).toNat)
  case atStart => exact ⟨1, by omega, by omega, rfl, hw0⟩
  case round =>
    clear hw0
    obtain ⟨n, hn1, hn65, rfl, hbw⟩ := hrel
    by_cases hn64 : n ≤ 64
    · have hn64' : decide ((n : Int) ≤ 64) = true := decide_eq_true (by omega)
      obtain ⟨w0, rfl⟩ : ∃ w0 : World, w0 = wr := ⟨_, rfl⟩
      go_wp2_with fail
      obtain ⟨R, hR⟩ : ∃ R, (Mc.ch2 n).r = R := ⟨_, rfl⟩
      have HRR := Lib.hid hR
      have hRl : Hid (R.length = n) := by show _ = _; rw [← hR]; exact Mc.ch2_len n
      have hRat : Hid (∀ s, s < n → R[s]? = some [((s : Int), 0), (((min (s + 1) (n - 1) : Nat) : Int), (((s + 1) / n : Nat) : Int))]) := fun s hs => by rw [← hR]; exact Mc.ch2_at hs
      clear hR
      go_loopw [3] (fun v wr => ∃ (s : Nat) (V : Value) (vs : List Value), s ≤ n ∧ v = .int .i64 s ∧ Hid (wr.heap[w0.heap.size]? = some (.cells #[.int .i64 2, .int .i64 2, V] 27)) ∧ Hid (Bld wr (w0.heap.size + 1) V (R.take s) vs) ∧ Hid (Below w0.heap.size w0 wr)) (fun v _ => n - (intOf v).toNat)
      case atStart =>
        exact ⟨0, .slice none 0 0, [], Nat.zero_le _, rfl, heap_alloc_new w0 _, Bld.nil_ _ _, (Below.refl _ _).alloc (Nat.le_refl _) _⟩
      case round =>
        obtain ⟨s, V, vs, hs, rfl, hG, hB, hbr⟩ := hrel
        have hts : (R.take s).length = s := by rw [List.length_take]; have := hRl.out; omega
        obtain ⟨A', c', hV, _, _, _, hRD0⟩ := hB.out.rd
        have hRD := Lib.hid hRD0
        clear hRD0
        rw [hts] at hV
        subst hV
        have hGm : BxM wr w0.heap.size 2 2 A' s c' := hG.out
        have hGs : w0.heap.size + 1 ≤ wr.heap.size := heap_lt hGm
        obtain ⟨g0, g1, g2⟩ := hGm.cells
        obtain ⟨_, _, f2⟩ := BxM.frozenK hGm
        by_cases hsl : s < n
        · have hsl' : decide ((s : Int) < n) = true := decide_eq_true (by omega)
          have hslI : (s : Int) < n := by omega
          have hnz : ((n : Int) == 0) = false := by simp; omega
          have hnz2 : (n : Int) ≠ 0 := by omega
          have hnz3 : ¬ (n = 0) := by omega
          have hnz4 : (n == 0) = false := by simp; omega
          obtain ⟨X, hX, hX2⟩ : ∃ X, min (IntKind.i64.wrap ((s : Int) + 1)) (IntKind.i64.wrap ((n : Int) - 1)) = X ∧ X = ((min (s + 1) (n - 1) : Nat) : Int) := ⟨_, rfl, by rw [IntWalk.i64_in _ (by omega), IntWalk.i64_in _ (by omega)]; omega⟩
          obtain ⟨Y, hY, hY2⟩ : ∃ Y, (IntKind.i64.wrap ((s : Int) + 1)).tdiv n = Y ∧ Y = (((s + 1) / n : Nat) : Int) := ⟨_, rfl, by rw [IntWalk.i64_in _ (by omega), Int.tdiv_eq_ediv_of_nonneg (by omega)]; exact (Int.natCast_ediv (s + 1) n).symm⟩
          have hrow : Hid ([(((s : Nat) : Int), 0), (((min (s + 1) (n - 1) : Nat) : Int), (((s + 1) / n : Nat) : Int))] = [((s : Int), 0), (X, Y)]) := by show _ = _; rw [hX2, hY2]
          have HVL : Hid (vs.length = s) := by have := hB.out.1.1; have h2 := hts; show _ = _; omega
          have hYw : IntKind.i64.wrap Y = Y := by
            have h1 := Nat.div_le_self (s + 1) n
            rw [hY2]
            generalize (s + 1) / n = q at h1 ⊢
            exact IntWalk.i64_in _ (by omega)
          clear hX2 hY2 hRD
          have K0 := fun w' => sedge_any (s : Int) 0 w'
          have K1 := fun w' => sedge_any X Y w'
          have q0 : Below wr.heap.size wr wr.drew := (Below.refl _ _).drew
          have hs3 : s + 1 ≤ maxLen := by unfold maxLen; omega
          have hs4 : (s + 1) * 24 ≤ 140737488355328 := by omega
          go_upto_region 8 with fail
          go_region_law
            (first
            | (go_simp
               go_at_call 47
               (with_reducible refine (K0 _).mono ?_)
               rintro e w1 ⟨rfl, hb1⟩
               have q1 := below_next q0 hb1
               have hG1 := BxM.mvB hGm q1
               obtain ⟨_, _, y2⟩ := BxM.cells hG1
               dsimp only)
            | (go_simp
               go_at_call 47
               (with_reducible refine (K1 _).mono ?_)
               rintro e w2 ⟨rfl, hb2⟩
               have q2 := below_next q1 hb2
               have hz2 := q2.size
               have hG2 := BxM.mvB hGm q2
               obtain ⟨_, _, y3⟩ := BxM.cells hG2
               obtain ⟨_, _, y4⟩ := BxM.cells (BxM.alK hG2 (.cells #[.int .i64 s, .int .i64 0, .int .i64 X, .int .i64 Y] 58))
               obtain ⟨_, _, y5⟩ := BxM.cells (BxM.alK (BxM.alK hG2 (.cells #[.int .i64 s, .int .i64 0, .int .i64 X, .int .i64 Y] 58)) (.cells #[.slice (some ⟨w2.heap.size, 0, none⟩) 2 2] 60))
               have hBr := Lib.hid ((hB.out.below q2).below ((Below.refl _ _).alloc (Nat.le_refl _) (.cells #[.int .i64 s, .int .i64 0, .int .i64 X, .int .i64 Y] 58)))
               have hownA := hBr.out.1.alloc (.cells #[.slice (some ⟨w2.heap.size, 0, none⟩) 2 2] 60)
               rw [hts] at hownA
               have S1 := Lib.hid (cell_one_new (w2.alloc (.cells #[.int .i64 s, .int .i64 0, .int .i64 X, .int .i64 Y] 58)) (t := 60) (.slice (some ⟨w2.heap.size, 0, none⟩) 2 2))
               have S2 : Hid (∀ u ∈ ([.slice (some ⟨w2.heap.size, 0, none⟩) 2 2] : List Value), u.oneCell' = true) := fun u hu => by simp at hu; subst hu; rfl
               have S5 : w0.heap.size + 1 ≤ ((w2.alloc (.cells #[.int .i64 s, .int .i64 0, .int .i64 X, .int .i64 Y] 58)).alloc (.cells #[.slice (some ⟨w2.heap.size, 0, none⟩) 2 2] 60)).heap.size := by simp; omega
               simp only [World.size_alloc] at S1
               dsimp only)
            | (refine step_append_lies _ rfl (.tmp 29) (.tmp 43) 25 rfl (w0.heap.size + 1) 60 r0 (.slice none 0 0) 1 24 Try.underlying25 hr0 hr1 hr2 hr3 rfl (by decide) (.slice A' s c') s vs (by simp [Act.eval]) hownA ⟨w2.heap.size + 1, 0, none⟩ 1 1 [.slice (some ⟨w2.heap.size, 0, none⟩) 2 2] (by simp [Act.eval]) rfl S1.out S2.out (by decide) hs3 hs4 S5 _ rfl ?_
               intro g c3 w3 hown1 hg1 hat1 hlt1
               have hne : some w0.heap.size ≠ (Value.slice A' s c').ownBlock := fun e => by
                 have := (hownA.lt _ e.symm).1
                 omega
               have hG9 : BxM w3 w0.heap.size 2 2 A' s c' := (hg1.block w0.heap.size (by simp; omega) hne).trans (BxM.alK (BxM.alK hG2 (.cells #[.int .i64 s, .int .i64 0, .int .i64 X, .int .i64 Y] 58)) (.cells #[.slice (some ⟨w2.heap.size, 0, none⟩) 2 2] 60))
               obtain ⟨_, _, y9⟩ := BxM.cells hG9
               obtain ⟨_, _, f9⟩ := BxM.frozenK hG9)
            | fail)
          all_goals
            have hpush := hBr.out.push (row := [((s : Int), 0), (X, Y)]) (g := w2.heap.size) (c := 2) (V1 := .slice (some ⟨g, 0, none⟩) (s + 1) c3) (w1 := w3) (o := (.cells #[.slice (some ⟨w2.heap.size, 0, none⟩) 2 2] 60)) (own_two w2 (w0.heap.size + 1) (by omega) s 0 X Y) (by rw [hts]; exact hown1) hg1
            have hset := hpush.kept (grown_setCell w3 ⟨w0.heap.size, 2, none⟩ (.slice (some ⟨g, 0, none⟩) (s + 1) c3)) (by show w0.heap.size < _; omega)
            have hRs : R.take s ++ [[((s : Int), 0), (X, Y)]] = R.take (s + 1) := by rw [List.take_add_one, hRat.out s hsl, hrow.out]; rfl
            rw [hRs] at hset
            have hset := Lib.hid hset
            have hG4 : Hid ((w3.setCell ⟨w0.heap.size, 2, none⟩ (.slice (some ⟨g, 0, none⟩) (s + 1) c3)).heap[w0.heap.size]? = some (.cells #[.int .i64 2, .int .i64 2, .slice (some ⟨g, 0, none⟩) (s + 1) c3] 27)) := by
              have : w3.heap[w0.heap.size]? = _ := hG9
              show _ = _
              simp [World.setCell, Array.getElem?_modify, this]
            have hbF : Hid (Below w0.heap.size w0 (w3.setCell ⟨w0.heap.size, 2, none⟩ (.slice (some ⟨g, 0, none⟩) (s + 1) c3))) :=
              (((((below_next hbr.out q2).alloc (below_next hbr.out q2).size (.cells #[.int .i64 s, .int .i64 0, .int .i64 X, .int .i64 Y] 58)).alloc (by simp; omega) (.cells #[.slice (some ⟨w2.heap.size, 0, none⟩) 2 2] 60)).grown hg1 (by simp; omega) (fun j hj => by have := (hownA.lt _ hj).1; omega)).setCell (p := ⟨w0.heap.size, 2, none⟩) (Nat.le_refl w0.heap.size) _)
            clear hown1 hg1 hpush hRs hne hG9 hownA S1 S2 S5 hG2 hBr
            go_wp2
            go_roundw
            case rel => exact ⟨s + 1, _, _, by omega, by go_num, hG4, hset, hbF⟩
            case measure => simp [intOf]; omega
        · obtain rfl : s = n := by omega
          have hsl' : decide ((s : Int) < s) = false := decide_eq_false (by omega)
          have hrd : RdR wr A' R := by
            have h := hRD.out
            rwa [List.take_of_length_le (by have := hRl.out; omega)] at h
          have s1 := MK.putB (MK.putR (show MT w0 wr [] from ⟨trivial, hbr.out, fun p hp => by simp at hp⟩) hrd) hGm
          clear hG hB hbr hrd hGm hts hRat hRl hs g0 g1 g2 f2 hGs hRD
          obtain ⟨b0, b1, b2⟩ := BxM.cells (MK.get s1 0 rfl)
          go_wp2_with fail
          clear b0 b1 b2
          have hr1' : RdR wr A' (Mc.ch2 s).r := by rw [HRR.out]; exact MK.get s1 1 rfl
          refine (kcHeight A' s c' _ hn1 hn64 hr1').mono ?_
          rintro e w1 ⟨rfl, hb⟩
          have s2 := MT.next s1 hb
          clear s1 hb hr1'
          have hr2' : RdR w1 A' (Mc.ch2 s).r := by rw [HRR.out]; exact MK.get s2 1 rfl
          obtain ⟨b0, b1, b2⟩ := BxM.cells (MK.get s2 0 rfl)
          obtain ⟨z2, hz2, hz3⟩ : ∃ z2 : Nat, (s : Int) * 2 + (s : Int) % 3 = z2 ∧ s < z2 ∧ z2 ≤ 130 := ⟨s * 2 + s % 3, by omega, by omega, by omega⟩
          by_cases hs2 : s = 1
          · have hg1 : decide ((1 : Int) < s) = false := decide_eq_false (by omega)
            have C1 := kcSep1 A' s c' w1 hs2 hr2'
            clear hs2 hr2'
            go_wp2_with fail
            clear b0 b1 b2
            refine C1.mono ?_
            rintro e w3 ⟨B, rfl, hb⟩
            have s5 := (MT.next s2 hb).2.1
            have hbF := Lib.hid (below_next hbw.out s5)
            clear s2 hb C1 s5
            go_wp2_with fail
            go_roundw
            case rel => exact ⟨z2, by omega, by omega, rfl, hbF⟩
            case measure => simp [intOf]; omega
          · have hg1 : decide ((1 : Int) < s) = true := decide_eq_true (by omega)
            have C1 := kcSep2 A' s c' w1 (by omega) hn64 hr2'
            clear hs2 hr2'
            go_wp2_with fail
            clear b0 b1 b2
            refine C1.mono ?_
            rintro e w3 ⟨B, rfl, hc1, hb⟩
            have s5 := (MT.next s2 hb).2.1
            have hbF := Lib.hid (below_next hbw.out s5)
            clear s2 hb C1 s5
            go_wp2_with fail
            go_roundw
            case rel => exact ⟨z2, by omega, by omega, rfl, hbF⟩
            case measure => simp [intOf]; omega
    · skip
      have h65 : decide ((n : Int) ≤ 64) = false := decide_eq_false (by omega)
      clear hn1 hn65 hn64
      go_wp2_with fail
      obtain ⟨j0, hj0, hy0, hy1, hy2⟩ := info_parts u16_info
      obtain ⟨w2, rfl⟩ : ∃ w2 : World, w2 = wr := ⟨_, rfl⟩
      have hq0 : Hid (Below w2.heap.size w2 w2) := Below.refl _ _
      go_loopw [9, 10] (fun kv nv wr => ∃ (k : Int) (n : Nat), n ≤ 60 ∧ nv = .int .i64 n ∧ kv = .int .i64 k ∧ 0 ≤ k ∧ k < 100003 ∧ Hid (Below w2.heap.size w2 wr)) (fun _ nv _ => 60 - (intOf nv).toNat)
      case atStart => exact ⟨1, 0, by omega, rfl, rfl, by omega, by omega, hq0⟩
      case round =>
        clear hq0
        obtain ⟨k, n, hn, rfl, rfl, hk0', hk1', hbr⟩ := hrel
        by_cases hn60 : n < 60
        · have hlt' : decide ((n : Int) < 60) = true := by simp; omega
          have hlt2 : (n : Int) < 60 := by omega
          go_wp2_with fail
          obtain ⟨wo, rfl⟩ : ∃ wo : World, wo = wr := ⟨_, rfl⟩
          go_loopw [9, 11, 12] (fun kv lv iv wr => ∃ (k : Int) (j : Nat) (zs : List Int), j ≤ 18 ∧ iv = .int .i64 j ∧ kv = .int .i64 k ∧ 0 ≤ k ∧ k < 100003 ∧ Hid (wr.ownsRow wo.heap.size 62 1 lv j (u16s zs)) ∧ Hid (∀ z ∈ zs, 0 ≤ z ∧ z ≤ 65535) ∧ Hid (Below wo.heap.size wo wr)) (fun _ _ iv _ => 18 - (intOf iv).toNat)
          case atStart => exact ⟨k, 0, [], by omega, rfl, rfl, hk0', hk1', World.ownsRow_nil _ _ _ _, (fun z h => by simp at h), Below.refl _ _⟩
          case round =>
            obtain ⟨q, j, zs, hj, rfl, rfl, hq0, hq1, hown0, hzs, hbr2⟩ := hrel
            by_cases hjl : j < 18
            · have hjl' : decide ((j : Int) < 18) = true := by simp; omega
              obtain ⟨r, hr, hr0, hr1⟩ : ∃ r, (q * 31 + 7 * (j : Int) + 11) % 100003 = r ∧ 0 ≤ r ∧ r < 100003 := ⟨_, rfl, by omega, by omega⟩
              have h8 : ((8 + (n : Int)) == 0) = false := by simp; omega
              have h8' : ¬ (8 + (n : Int) = 0) := by omega
              obtain ⟨z, hz, hz01⟩ : ∃ z, IntKind.u16.wrap (r.tmod (8 + (n : Int))) = z ∧ Hid (0 ≤ z ∧ z ≤ 65535) := ⟨_, rfl, u16_bd _⟩
              have hzm : IntKind.u16.wrap (r % (8 + (n : Int))) = z := by rw [← hz, Int.tmod_eq_emod_of_nonneg hr0]
              have hsz := hbr2.out.size
              have h1 := Lib.hid (cell_one_new wr (t := 62) (.int .u16 z))
              have h2 : Hid (∀ u ∈ ([.int .u16 z] : List Value), u.oneCell' = true) := fun u hu => by simp at hu; subst hu; rfl
              have h3 : j + 1 ≤ maxLen := by unfold maxLen; omega
              have h4 : (j + 1) * 2 ≤ 140737488355328 := by omega
              have h5 : wo.heap.size ≤ (wr.alloc (.cells #[.int .u16 z] 62)).heap.size := by simp; omega
              have hownA := hown0.out.alloc (.cells #[.int .u16 z] 62)
              go_wp2_with (at_builtin; refine wpList_append_own _ rfl _ _ 22 rfl wo.heap.size 62 j0 (.int .u16 0) 1 2 Try.underlying22 hj0 hy0 hy1 hy2 rfl (by decide) _ _ _ rfl hownA ⟨wr.heap.size, 0, none⟩ 1 1 [.int .u16 z] rfl rfl h1.out h2.out h3 h4 h5 ?_)
              intro v1 w5 hown1 hg1 _
              have hbr3 : Hid (Below wo.heap.size wo w5) := (hbr2.out.alloc hsz _).grown hg1 h5 (fun j hj => (hownA.lt j hj).1)
              rw [u16s_snoc] at hown1
              have hown3 := Lib.hid hown1
              have hzs2 : Hid (∀ y ∈ zs ++ [z], 0 ≤ y ∧ y ≤ 65535) := fun y hy => by
                rcases List.mem_append.1 hy with h | h
                · exact hzs.out y h
                · simp at h; subst h; exact hz01.out
              clear hown1 hg1 hownA h1 h2 h4 h5 hown0 hz hbr2 hsz hzm h8 h8' h3
              go_wp2
              go_roundw
              case rel => exact ⟨r, j + 1, _, by omega, by go_num, rfl, hr0, hr1, hown3, hzs2, hbr3⟩
              case measure => simp [intOf]; omega
            · have hjl' : decide ((j : Int) < 18) = false := by simp; omega
              obtain rfl : j = 18 := by omega
              obtain ⟨Ls, cl, rfl, hcl⟩ := own_slice hown0.out
              have HZL : Hid (zs.length = 18) := by have := hown0.out.1; rw [u16s_len] at this; exact this
              have hbW := below_next hbr.out hbr2.out
              have s5 := MT.putK (P := fun w => Rd16 w Ls zs) (show MT w2 wr [] from ⟨trivial, hbW, fun p hp => by simp at hp⟩) (Rd16.of_own hown0.out hzs.out) (fun _ _ h hb => h.below hb)
              clear hown0 hjl hjl' hbr hbr2 hbW hzs
              obtain ⟨n3, hn3, m3⟩ : ∃ m, (n : Int) / 3 = m ∧ Hid (0 ≤ m ∧ m ≤ 255) := ⟨_, rfl, by show _ ∧ _; omega⟩
              obtain ⟨pb, hpb⟩ : ∃ b, ((n : Int) % 2 == 0) = b := ⟨_, rfl⟩
              obtain ⟨k8, hk8, m8⟩ : ∃ m, q % 256 = m ∧ Hid (0 ≤ m ∧ m ≤ 255) := ⟨_, rfl, by show _ ∧ _; omega⟩
              obtain ⟨k7, hk7, m7⟩ : ∃ m, q / 7 % 256 = m ∧ Hid (0 ≤ m ∧ m ≤ 255) := ⟨_, rfl, by show _ ∧ _; omega⟩
              have mn : Hid (0 ≤ (n : Int) ∧ (n : Int) ≤ 255) := by show _ ∧ _; omega
              have m1 : Hid (0 ≤ (1 : Int) ∧ (1 : Int) ≤ 255) := by show _ ∧ _; omega
              obtain ⟨G, hG⟩ : ∃ G, wr.heap.size = G := ⟨_, rfl⟩
              obtain ⟨O0, hO0⟩ : ∃ O, Obj.cells #[.int .u8 n, .int .u8 n3, .int .u8 1, .bool pb, .slice Ls 18 cl] 24 = O := ⟨_, rfl⟩
              have s6 := MT.putK (P := fun w => w.heap[G]? = some (.cells #[.int .u8 n, .int .u8 n3, .int .u8 1, .bool pb, .slice Ls 18 cl] 24)) (MT.alloc s5 O0) (by rw [← hO0, ← hG]; exact heap_alloc_new wr _) (fun _ _ h hb => (hb.block _ (heap_lt h)).trans h)
              obtain ⟨O1, hO1⟩ : ∃ O, Obj.cells #[.int .u8 k8, .int .u8 n] 5 = O := ⟨_, rfl⟩
              have s7 := MT.putK (P := fun w => Rd8 w (some ⟨G + 1, 0, none⟩) [k8, n]) (MT.alloc s6 O1) (by
                have h := rd8_lit (wr.alloc O0) [k8, n] (fun z hz => by
                  have := m8.out; have := m7.out; have := mn.out
                  simp at hz
                  rcases hz with rfl | rfl <;> omega)
                rw [show (wr.alloc O0).heap.size = G + 1 by simp [hG]] at h
                rw [← hO1]
                exact h) (fun _ _ h hb => h.below hb)
              obtain ⟨O2, hO2⟩ : ∃ O, Obj.cells #[.int .u8 1, .int .u8 2, .int .u8 k7] 5 = O := ⟨_, rfl⟩
              have s8 := MT.putK (P := fun w => Rd8 w (some ⟨G + 1 + 1, 0, none⟩) [1, 2, k7]) (MT.alloc s7 O2) (by
                have h := rd8_lit ((wr.alloc O0).alloc O1) [1, 2, k7] (fun z hz => by
                  have := m8.out; have := m7.out; have := mn.out
                  simp at hz
                  rcases hz with rfl | rfl | rfl <;> omega)
                rw [show ((wr.alloc O0).alloc O1).heap.size = G + 1 + 1 by simp [hG]] at h
                rw [← hO2]
                exact h) (fun _ _ h hb => h.below hb)
              obtain ⟨O3, hO3⟩ : ∃ O, Obj.cells #[.slice (some ⟨G + 1, 0, none⟩) 2 2, .slice (some ⟨G + 1 + 1, 0, none⟩) 3 3] 69 = O := ⟨_, rfl⟩
              have s9 := MT.putK (P := fun w => w.heap[G + 1 + 1 + 1]? = some (.cells #[.slice (some ⟨G + 1, 0, none⟩) 2 2, .slice (some ⟨G + 1 + 1, 0, none⟩) 3 3] 69)) (MT.alloc s8 O3) (by
                have h := heap_alloc_new (((wr.alloc O0).alloc O1).alloc O2) O3
                rw [show (((wr.alloc O0).alloc O1).alloc O2).heap.size = G + 1 + 1 + 1 by simp [hG], ← hO3] at h
                rw [← hO3]
                exact h) (fun _ _ h hb => (hb.block _ (heap_lt h)).trans h)
              clear s5 s6 s7 s8
              go_upto_region 25 with fail
              obtain ⟨W, hW⟩ : ∃ W, ((((wr.alloc O0).alloc O1).alloc O2).alloc O3) = W := ⟨_, rfl⟩
              rw [hW] at s9
              try rw [hW]
              clear hW hO0 hO1 hO2 hO3 hG
              clear O0 O1 O2 O3
              have HKM : Hid (∀ (V : World) (P0 P1 P2 : World → Prop) (L : List (World → Prop)), MT w2 V (P0 :: P1 :: P2 :: (fun w => w.heap[G]? = some (.cells #[.int .u8 n, .int .u8 n3, .int .u8 1, .bool pb, .slice Ls 18 cl] 24)) :: L) → (V.cell? ⟨G, 0, none⟩ = some (.int .u8 n) ∧ V.cell? ⟨G, 1, none⟩ = some (.int .u8 n3) ∧ V.cell? ⟨G, 2, none⟩ = some (.int .u8 1) ∧ V.cell? ⟨G, 3, none⟩ = some (.bool pb) ∧ V.cell? ⟨G, 4, none⟩ = some (.slice Ls 18 cl))) := fun V P0 P1 P2 L h => by
                have h1 := MK.get h 3 rfl
                refine ⟨?_, ?_, ?_, ?_, ?_⟩ <;> (rw [cell_of_row _ _ _ _ _ _ h1]; rfl)
              have HKW : Hid (∀ (V : World) (L : List (World → Prop)), MT w2 V ((fun w => w.heap[G + 1 + 1 + 1]? = some (.cells #[.slice (some ⟨G + 1, 0, none⟩) 2 2, .slice (some ⟨G + 1 + 1, 0, none⟩) 3 3] 69)) :: L) → V.cell? ⟨G + 1 + 1 + 1, 0, none⟩ = some (.slice (some ⟨G + 1, 0, none⟩) 2 2) ∧ V.cell? ⟨G + 1 + 1 + 1, 1, none⟩ = some (.slice (some ⟨G + 1 + 1, 0, none⟩) 3 3)) := fun V L h => by
                have h1 := MK.get h 0 rfl
                refine ⟨?_, ?_⟩ <;> (rw [cell_of_row _ _ _ _ _ _ h1]; rfl)
              have hw1 : IntKind.u8.wrap (n : Int) = n := IntWalk.u8_in _ (by omega)
              have hw2 : IntKind.u8.wrap q = k8 := by rw [IntKind.wrap_u8]; exact hk8
              have C1 := fun w hr => kSep n n3 1 pb Ls 18 cl zs w hr HZL.out (by decide) mn.out m3.out m1.out n k8 mn.out m8.out
              have C2 := fun w hr h1 h2 => kSeps n n3 1 pb Ls 18 cl zs w hr HZL.out (by decide) mn.out m3.out m1.out (some ⟨G + 1, 0, none⟩) 2 2 [k8, n] h1 rfl (some ⟨G + 1 + 1, 0, none⟩) 3 3 [1, 2, k7] h2 rfl n k8 1 mn.out m8.out m1.out (by decide) (by decide)
              have C3 := fun w hr => kTab n n3 1 pb Ls 18 cl zs w hr HZL.out (by decide) mn.out m3.out m1.out
              have C4 := fun w hr => kLad n n3 1 pb Ls 18 cl zs w hr HZL.out (by decide) mn.out m3.out m1.out
              have C5 := fun w hr h2 => kAft n n3 1 pb Ls 18 cl zs w hr HZL.out (by decide) mn.out m3.out m1.out (some ⟨G + 1 + 1, 0, none⟩) 3 3 [1, 2, k7] h2 rfl (by decide)
              obtain ⟨x0, x1, x2, x3, x4⟩ := HKM.out _ _ _ _ _ s9
              go_wp2_with fail
              refine (C1 _ (MK.get s9 4 rfl)).mono ?_
              rintro e v1 ⟨rfl, hbl⟩
              have t1 := MT.next s9 hbl
              clear s9 hbl x0 x1 x2 x3 x4 C1
              obtain ⟨x0, x1, x2, x3, x4⟩ := HKM.out _ _ _ _ _ t1
              obtain ⟨y0, y1⟩ := HKW.out _ _ t1
              go_wp2_with fail
              refine (C2 _ (MK.get t1 4 rfl) (MK.get t1 2 rfl) (MK.get t1 1 rfl)).mono ?_
              rintro e v2 ⟨rfl, hbl⟩
              have t2 := MT.next t1 hbl
              clear t1 hbl x0 x1 x2 x3 x4 y0 y1 C2
              obtain ⟨x0, x1, x2, x3, x4⟩ := HKM.out _ _ _ _ _ t2
              go_wp2_with fail
              refine (C3 _ (MK.get t2 4 rfl)).mono ?_
              rintro e v3 ⟨rfl, hbl⟩
              have t3 := MT.next t2 hbl
              clear t2 hbl x0 x1 x2 x3 x4 C3
              obtain ⟨x0, x1, x2, x3, x4⟩ := HKM.out _ _ _ _ _ t3
              go_wp2_with fail
              refine (C4 _ (MK.get t3 4 rfl)).mono ?_
              rintro e v4 ⟨rfl, hbl⟩
              have t4 := MT.next t3 hbl
              clear t3 hbl x0 x1 x2 x3 x4 C4
              obtain ⟨x0, x1, x2, x3, x4⟩ := HKM.out _ _ _ _ _ t4
              obtain ⟨y0, y1⟩ := HKW.out _ _ t4
              go_wp2_with fail
              refine (C5 _ (MK.get t4 4 rfl) (MK.get t4 1 rfl)).mono ?_
              rintro e v5 ⟨rfl, hbl⟩
              have t5 := Lib.hid (MT.next t4 hbl).2.1
              clear t4 hbl x0 x1 x2 x3 x4 y0 y1 C5
              go_wp2
              go_roundw
              case rel => exact ⟨q, n + 1, by omega, by go_num, rfl, hq0, hq1, t5⟩
              case measure => simp [intOf]; omega
        · have hlt' : decide ((n : Int) < 60) = false := by simp; omega
          have hbF := Lib.hid (below_next hbw.out hbr.out)
          go_wp2_with fail
          refine (slives_walk wr).mono ?_
          rintro e wz ⟨rfl, hb⟩
          have hbE := Lib.hid (below_next hbF.out hb)
          clear hb
          go_wp2
          go_ret
          exact ⟨rfl, hbE.out⟩
end Go.Proofs.Ytonnplhiaidjnaa
