/-
  The walk of the law QuotientsKnown. No statement is proved here.
-/
import Derived.Test.YtnodnfailjmpeaaQrF
import Derived.Test.YtnodnfailjmpeaaQrA
import Derived.Test.YtnodnfailjmpeaaQrB
import Derived.Test.YtnodnfailjmpeaaQrD
namespace Go.Proofs.Ytnodnfailjmpeaa
open Go.RowKit
open Mc (Ed Ma)

def Pw2 (n : Nat) : Prop := n = 1 ∨ n = 2 ∨ n = 4 ∨ n = 8 ∨ n = 16 ∨ n = 32 ∨ n = 64 ∨ n = 128
theorem Pw2.pos {n : Nat} (h : Pw2 n) : 1 ≤ n ∧ n ≤ 128 := by unfold Pw2 at h; omega
theorem Pw2.dvd {n : Nat} (h : Pw2 n) (hn : n ≤ 64) : n ∣ 64 ∧ 63 % n = n - 1 ∧ Pw2 (n * 2) := by
  unfold Pw2 at h ⊢
  rcases h with rfl | rfl | rfl | rfl | rfl | rfl | rfl | rfl <;> first | omega | decide
section
variable (n : Nat) (A : Option Addr) (s c : Nat) (w : World) (hd : n ∣ 64) (h1 : 1 ≤ n) (hs : s = 64) (hr : RdR w A (Mc.rg9 n).r)
include hd h1 hs hr
theorem kqMin : Calls Try.prog 11 #[.agg #[.int .i64 1, .int .i64 2, .slice A s c]] w fun e w' => ∃ P, e = .returned (.tuple #[.agg #[.int .i64 1, .int .i64 2, .slice (some ⟨P, 0, none⟩) n n], .int .i64 0]) ∧ Below w.heap.size w w' := by
  subst hs
  refine (qmin_at (Mc.rg9 n) 1 2 A 64 c w n (Mc.rg9_val h1) rfl rfl (Mc.rg9_len n) (Mc.rg9_num hd h1) hr).mono ?_
  rintro e w' ⟨P, rfl, _, h⟩
  exact ⟨P, rfl, h⟩
theorem kqMap (h63 : 63 % n = n - 1) : Calls Try.prog 12 #[.agg #[.int .i64 1, .int .i64 2, .slice A s c]] w fun e w' => ∃ g, e = .returned (.tuple #[.slice (some ⟨g, 0, none⟩) 64 64, .int .i64 0]) ∧ w'.cell? ⟨g, 63, none⟩ = some (.int .i64 ((63 % n : Nat) : Int)) ∧ w'.cell? ⟨g, n % 64, none⟩ = some (.int .i64 0) ∧ g < w'.heap.size ∧ Below w.heap.size w w' := by
  subst hs
  refine (qmap_at (Mc.rg9 n) 1 2 A 64 c w (Mc.rg9_val h1) rfl rfl (Mc.rg9_len n) hr).mono ?_
  rintro e w' ⟨g, rfl, hrd, h⟩
  have hl : (Mc.ql (Mc.rg9 n)).length = 64 := by rw [Mc.ql_len, Mc.rg9_len]
  have e1 := Mc.rg9_63 hd h1 h63
  have e2 := Mc.rg9_zero hd h1
  have e3 := hrd.at_ (k := 63) (by omega)
  have e4 := hrd.at_ (k := n % 64) (by omega)
  generalize Mc.ql (Mc.rg9 n) = L at e1 e2 e3 e4
  obtain ⟨b, off, z, hE, hlt, hc, hz⟩ := e3
  obtain ⟨b2, off2, z2, hE2, _, hc2, hz2⟩ := e4
  injection hE with hE
  injection hE with h3 h4
  injection hE2 with hE2
  injection hE2 with h5 h6
  subst h3 h4 h5 h6
  have hz' : M.gz L 63 = z := hz.out
  have hz2' : M.gz L (n % 64) = z2 := hz2.out
  rw [e1] at hz'
  rw [e2] at hz2'
  subst hz' hz2'
  rw [Nat.zero_add] at hc hc2
  exact ⟨g, rfl, hc, hc2, hlt, h⟩
end
section
variable (a b d : Int) (p : Bool) (A : Option Addr) (n c : Nat) (es : List Int) (w : World) (hr : Rd16 w A es) (hn : es.length = n) (hl : n ≤ 1000) (ha : 0 ≤ a ∧ a ≤ 255) (hb : 0 ≤ b ∧ b ≤ 255) (hd : 0 ≤ d ∧ d ≤ 255)
include hr hn hl ha hb hd
theorem k9Min (B : Option Addr) (m k : Nat) (ws : List Int) (hw : Rd8 w B ws) (hm : ws.length = m) (hm2 : m ≤ 1000) : Calls Try.prog 13 #[.agg #[.int .u8 a, .int .u8 b, .int .u8 d, .bool p, .slice A n c], .agg #[.slice B m k]] w fun e w' => e = .returned (.bool true) ∧ Below w.heap.size w w' := by
  subst hn hm
  exact lawQMin_walk a b d p A c es B k ws w hr hw (by omega) (by omega) ha hb hd
theorem k9Map (B : Option Addr) (m k : Nat) (ws : List Int) (hw : Rd8 w B ws) (hm : ws.length = m) (hm2 : m ≤ 1000) : Calls Try.prog 14 #[.agg #[.int .u8 a, .int .u8 b, .int .u8 d, .bool p, .slice A n c], .agg #[.slice B m k]] w fun e w' => e = .returned (.bool true) ∧ Below w.heap.size w w' := by
  subst hn hm
  exact lawQMap_walk a b d p A c es B k ws w hr hw (by omega) (by omega) ha hb hd
theorem k9Uni : Calls Try.prog 15 #[.agg #[.int .u8 a, .int .u8 b, .int .u8 d, .bool p, .slice A n c], .slice A n c] w fun e w' => e = .returned (.bool true) ∧ Below w.heap.size w w' := by
  subst hn
  exact lawQUni_walk a b d p A c es A c es w hr (by omega) ha hb hd hr
theorem k9Prp (T : Option Addr) (m k : Nat) (ts : List Int) (ht : Rd8 w T ts) (hm : ts.length = m) (hm2 : m ≤ 1000) : Calls Try.prog 16 #[.agg #[.int .u8 a, .int .u8 b, .int .u8 d, .bool p, .slice A n c], .agg #[.int .u8 a, .int .u8 b, .int .u8 d, .slice T m k, .slice A n c]] w fun e w' => e = .returned (.bool true) ∧ Below w.heap.size w w' := by
  subst hn hm
  exact lawQPrp_walk a b d p A c es a b d T k ts A c es w hr ht hr (by omega) (by omega) ha hb hd ha hb hd
theorem k9Hom (P : Option Addr) (l e0 : Nat) (f : List Int) (hf : Rd w P f) (hl2 : f.length = l) (B : Option Addr) (m k : Nat) (ws : List Int) (hw : Rd8 w B ws) (hm : ws.length = m) (hm2 : m ≤ 1000) : Calls Try.prog 17 #[.agg #[.int .u8 a, .int .u8 b, .int .u8 d, .bool p, .slice A n c, .int .u8 a, .int .u8 b, .int .u8 d, .bool p, .slice A n c], .slice P l e0, .agg #[.slice B m k]] w fun e w' => e = .returned (.bool true) ∧ Below w.heap.size w w' := by
  subst hn hm hl2
  exact lawQHom_walk a b d p A c es a b d p A c es P e0 f B k ws w hr hr hf hw (by omega) (by omega) (by omega) ha hb hd ha hb hd
end
theorem k9K (a b d : Int) (A : Option Addr) (n c : Nat) (es : List Int) (w : World) (hr : Rd16 w A es) (hn : es.length = n) (hl : n ≤ 1000) (ha : 0 ≤ a ∧ a ≤ 255) (hb : 0 ≤ b ∧ b ≤ 255) (hd : 0 ≤ d ∧ d ≤ 255) (T : Option Addr) (m k : Nat) (ts : List Int) (ht : Rd8 w T ts) (hm : ts.length = m) (hm2 : m ≤ 1000) :
    Calls Try.prog 18 #[.agg #[.int .u8 a, .int .u8 b, .int .u8 d, .slice T m k, .slice A n c]] w fun e w' => e = .returned (.bool true) ∧ Below w.heap.size w w' := by
  subst hn hm
  exact lawQK_walk a b d T k ts A c es w ht hr (by omega) (by omega) ha hb hd
theorem run_cut (a : Addr) (l6 : Nat) (w : World) (h : l6 ≤ 6) : (Instr.sliceAt 32 (.slice (some a) 6 6) none (some (.int .i64 l6)) none).run Try.prog w = .ok (.slice (some a) l6 6) w := by
  rcases (by omega : l6 = 0 ∨ l6 = 1 ∨ l6 = 2 ∨ l6 = 3 ∨ l6 = 4 ∨ l6 = 5 ∨ l6 = 6) with rfl | rfl | rfl | rfl | rfl | rfl | rfl <;> kernel_rfl
theorem six_len {k : Nat} (h : k ≤ 6) : (([0, 1, 2, 3, 4, 5] : List Int).take k).length = k := by simp; omega
theorem rd_six (w : World) (k : Nat) : Rd (w.alloc (.cells #[.int .i64 0, .int .i64 1, .int .i64 2, .int .i64 3, .int .i64 4, .int .i64 5] 3)) (some ⟨w.heap.size, 0, none⟩) (([0, 1, 2, 3, 4, 5] : List Int).take k) := fun _ => by
  refine ⟨w.heap.size, 0, rfl, by simp, fun j hj => ?_⟩
  have hj6 : j < 6 := by simp at hj; omega
  have hjk : j < k := by simp at hj; omega
  rw [List.getElem?_take_of_lt hjk, World.cell?_alloc_at _ _ _ _ rfl]
  rcases (by omega : j = 0 ∨ j = 1 ∨ j = 2 ∨ j = 3 ∨ j = 4 ∨ j = 5) with rfl | rfl | rfl | rfl | rfl | rfl <;> rfl
set_option maxRecDepth 100000 in
set_option maxHeartbeats 1500000 in
theorem lawKnown9_walk (w : World) :
    Calls Try.prog 3 #[] w fun e w' => e = .returned (.bool true) ∧ Below w.heap.size w w' := by
  obtain ⟨r0, hr0, hr1, hr2, hr3⟩ := info_parts row_info
  go_enter Try.func3, Try.ntmps3
  go_wp2_with fail
  have hw0 : Hid (Below w.heap.size w w) := Below.refl _ _
  go_loopw [1] (fun v wr => ∃ n : Nat, Hid (Pw2 n) ∧ v = .int .i64 n ∧ Hid (Below w.heap.size w wr)) (fun v _ => 129 - (intOf v).toNat)
  case atStart => exact ⟨1, Or.inl rfl, rfl, hw0⟩
  case round =>
    clear hw0
    obtain ⟨n, hP, rfl, hbw⟩ := hrel
    have hn1 : 1 ≤ n := hP.out.pos.1
    by_cases hn64 : n ≤ 64
    · have hn64' : decide ((n : Int) ≤ 64) = true := decide_eq_true (by omega)
      obtain ⟨w0, rfl⟩ : ∃ w0 : World, w0 = wr := ⟨_, rfl⟩
      go_wp2_with fail
      have HD := Lib.hid (hP.out.dvd hn64)
      obtain ⟨R, hR⟩ : ∃ R, (Mc.rg9 n).r = R := ⟨_, rfl⟩
      have HRR := Lib.hid hR
      have hRl : Hid (R.length = 64) := by show _ = _; rw [← hR]; exact Mc.rg9_len n
      have hRat : Hid (∀ s, s < 64 → R[s]? = some [((((s + 1) % 64 : Nat) : Int), (((s % n + 1) / n : Nat) : Int))]) := fun s hs => by rw [← hR]; exact Mc.rg9_at hs
      clear hR
      go_loopw [3] (fun v wr => ∃ (s : Nat) (V : Value) (vs : List Value), s ≤ 64 ∧ v = .int .i64 s ∧ Hid (wr.heap[w0.heap.size]? = some (.cells #[.int .i64 1, .int .i64 2, V] 24)) ∧ Hid (Bld wr (w0.heap.size + 1) V (R.take s) vs) ∧ Hid (Below w0.heap.size w0 wr)) (fun v _ => 64 - (intOf v).toNat)
      case atStart =>
        exact ⟨0, .slice none 0 0, [], Nat.zero_le _, rfl, heap_alloc_new w0 _, Bld.nil_ _ _, (Below.refl _ _).alloc (Nat.le_refl _) _⟩
      case round =>
        obtain ⟨s, V, vs, hs, rfl, hG, hB, hbr⟩ := hrel
        have hts : (R.take s).length = s := by rw [List.length_take]; have := hRl.out; omega
        obtain ⟨A', c', hV, _, _, _, hRD0⟩ := hB.out.rd
        have hRD := Lib.hid hRD0
        clear hRD0
        rw [hts] at hV
        subst hV
        have hGm : BxM wr w0.heap.size 1 2 A' s c' := hG.out
        have hGs : w0.heap.size + 1 ≤ wr.heap.size := heap_lt hGm
        obtain ⟨g0, g1, g2⟩ := hGm.cells
        obtain ⟨_, _, f2⟩ := BxM.frozenK hGm
        by_cases hsl : s < 64
        · have hsl' : decide ((s : Int) < 64) = true := decide_eq_true (by omega)
          have hslI : (s : Int) < 64 := by omega
          have hnz : ((n : Int) == 0) = false := by simp; omega
          have hnz2 : (n : Int) ≠ 0 := by omega
          have hnz3 : ¬ (n = 0) := by omega
          have hnz4 : (n == 0) = false := by simp; omega
          obtain ⟨X, hX, hX2⟩ : ∃ X, ((s : Int) + 1) % 64 = X ∧ X = (((s + 1) % 64 : Nat) : Int) := ⟨_, rfl, by omega⟩
          have hXt : (IntKind.i64.wrap ((s : Int) + 1)).tmod 64 = X := by rw [IntWalk.i64_in _ (by omega), Int.tmod_eq_emod_of_nonneg (by omega)]; exact hX
          have hXt2 : ((s : Int) + 1).tmod 64 = X := by rw [Int.tmod_eq_emod_of_nonneg (by omega)]; exact hX
          obtain ⟨r, hre, hre2⟩ : ∃ r : Nat, s % n = r ∧ r < n := ⟨_, rfl, Nat.mod_lt _ (by omega)⟩
          have hrt : (s : Int).tmod n = r := by rw [Int.tmod_eq_emod_of_nonneg (by omega), ← hre]; exact (Int.natCast_emod s n).symm
          have hrt2 : (s : Int) % n = r := by rw [← hre]; exact (Int.natCast_emod s n).symm
          have hr64 : r < 64 := by omega
          have hre1 : IntKind.i64.wrap ((r : Int) + 1) = (r : Int) + 1 := IntWalk.i64_in _ (by omega)
          obtain ⟨Y, hY, hY2⟩ : ∃ Y, ((r : Int) + 1).tdiv n = Y ∧ Y = (((r + 1) / n : Nat) : Int) := ⟨_, rfl, by rw [Int.tdiv_eq_ediv_of_nonneg (by omega)]; exact (Int.natCast_ediv (r + 1) n).symm⟩
          have hYe : ((r : Int) + 1) / n = Y := by rw [hY2]; exact (Int.natCast_ediv (r + 1) n).symm
          have hrow : Hid ([((((s + 1) % 64 : Nat) : Int), (((s % n + 1) / n : Nat) : Int))] = [(X, Y)]) := by show _ = _; rw [hX2, hY2, hre]
          have HVL : Hid (vs.length = s) := by have := hB.out.1.1; have h2 := hts; show _ = _; omega
          have hYw : IntKind.i64.wrap Y = Y := by
            have h1 := Nat.div_le_self (r + 1) n
            rw [hY2]
            generalize (r + 1) / n = q at h1 ⊢
            exact IntWalk.i64_in _ (by omega)
          clear hX2 hY2 hRD hre hre2
          have K1 := fun w' => qedge_any X Y w'
          have q0 : Below wr.heap.size wr wr.drew := (Below.refl _ _).drew
          have hs3 : s + 1 ≤ maxLen := by unfold maxLen; omega
          have hs4 : (s + 1) * 24 ≤ 140737488355328 := by omega
          go_upto_region 8 with fail
          go_region_law
            (first
            | (go_simp
               go_at_call 10
               (with_reducible refine (K1 _).mono ?_)
               rintro e w2 ⟨rfl, hb2⟩
               have q2 := below_next q0 hb2
               have hz2 := q2.size
               have hG2 := BxM.mvB hGm q2
               obtain ⟨_, _, y3⟩ := BxM.cells hG2
               obtain ⟨_, _, y4⟩ := BxM.cells (BxM.alK hG2 (.cells #[.int .i64 X, .int .i64 Y] 26))
               obtain ⟨_, _, y5⟩ := BxM.cells (BxM.alK (BxM.alK hG2 (.cells #[.int .i64 X, .int .i64 Y] 26)) (.cells #[.slice (some ⟨w2.heap.size, 0, none⟩) 1 1] 28))
               have hBr := Lib.hid ((hB.out.below q2).below ((Below.refl _ _).alloc (Nat.le_refl _) (.cells #[.int .i64 X, .int .i64 Y] 26)))
               have hownA := hBr.out.1.alloc (.cells #[.slice (some ⟨w2.heap.size, 0, none⟩) 1 1] 28)
               rw [hts] at hownA
               have S1 := Lib.hid (cell_one_new (w2.alloc (.cells #[.int .i64 X, .int .i64 Y] 26)) (t := 28) (.slice (some ⟨w2.heap.size, 0, none⟩) 1 1))
               have S2 : Hid (∀ u ∈ ([.slice (some ⟨w2.heap.size, 0, none⟩) 1 1] : List Value), u.oneCell' = true) := fun u hu => by simp at hu; subst hu; rfl
               have S5 : w0.heap.size + 1 ≤ ((w2.alloc (.cells #[.int .i64 X, .int .i64 Y] 26)).alloc (.cells #[.slice (some ⟨w2.heap.size, 0, none⟩) 1 1] 28)).heap.size := by simp; omega
               simp only [World.size_alloc] at S1
               dsimp only)
            | (refine step_append_lies _ rfl (.tmp 26) (.tmp 38) 22 rfl (w0.heap.size + 1) 28 r0 (.slice none 0 0) 1 24 Try.underlying22 hr0 hr1 hr2 hr3 rfl (by decide) (.slice A' s c') s vs (by simp [Act.eval]) hownA ⟨w2.heap.size + 1, 0, none⟩ 1 1 [.slice (some ⟨w2.heap.size, 0, none⟩) 1 1] (by simp [Act.eval]) rfl S1.out S2.out (by decide) hs3 hs4 S5 _ rfl ?_
               intro g c3 w3 hown1 hg1 hat1 hlt1
               have hne : some w0.heap.size ≠ (Value.slice A' s c').ownBlock := fun e => by
                 have := (hownA.lt _ e.symm).1
                 omega
               have hG9 : BxM w3 w0.heap.size 1 2 A' s c' := (hg1.block w0.heap.size (by simp; omega) hne).trans (BxM.alK (BxM.alK hG2 (.cells #[.int .i64 X, .int .i64 Y] 26)) (.cells #[.slice (some ⟨w2.heap.size, 0, none⟩) 1 1] 28))
               obtain ⟨_, _, y9⟩ := BxM.cells hG9
               obtain ⟨_, _, f9⟩ := BxM.frozenK hG9)
            | fail)
          all_goals
            have hpush := hBr.out.push (row := [(X, Y)]) (g := w2.heap.size) (c := 1) (V1 := .slice (some ⟨g, 0, none⟩) (s + 1) c3) (w1 := w3) (o := (.cells #[.slice (some ⟨w2.heap.size, 0, none⟩) 1 1] 28)) (own_one w2 (w0.heap.size + 1) (by omega) X Y) (by rw [hts]; exact hown1) hg1
            have hset := hpush.kept (grown_setCell w3 ⟨w0.heap.size, 2, none⟩ (.slice (some ⟨g, 0, none⟩) (s + 1) c3)) (by show w0.heap.size < _; omega)
            have hRs : R.take s ++ [[(X, Y)]] = R.take (s + 1) := by rw [List.take_add_one, hRat.out s hsl, hrow.out]; rfl
            rw [hRs] at hset
            have hset := Lib.hid hset
            have hG4 : Hid ((w3.setCell ⟨w0.heap.size, 2, none⟩ (.slice (some ⟨g, 0, none⟩) (s + 1) c3)).heap[w0.heap.size]? = some (.cells #[.int .i64 1, .int .i64 2, .slice (some ⟨g, 0, none⟩) (s + 1) c3] 24)) := by
              have : w3.heap[w0.heap.size]? = _ := hG9
              show _ = _
              simp [World.setCell, Array.getElem?_modify, this]
            have hbF : Hid (Below w0.heap.size w0 (w3.setCell ⟨w0.heap.size, 2, none⟩ (.slice (some ⟨g, 0, none⟩) (s + 1) c3))) :=
              (((((below_next hbr.out q2).alloc (below_next hbr.out q2).size (.cells #[.int .i64 X, .int .i64 Y] 26)).alloc (by simp; omega) (.cells #[.slice (some ⟨w2.heap.size, 0, none⟩) 1 1] 28)).grown hg1 (by simp; omega) (fun j hj => by have := (hownA.lt _ hj).1; omega)).setCell (p := ⟨w0.heap.size, 2, none⟩) (Nat.le_refl w0.heap.size) _)
            clear hown1 hg1 hpush hRs hne hG9 hownA S1 S2 S5 hG2 hBr
            go_wp2
            go_roundw
            case rel => exact ⟨s + 1, _, _, by omega, by go_num, hG4, hset, hbF⟩
            case measure => simp [intOf]; omega
        · have hs64 : s = 64 := by omega
          have hsl' : decide ((s : Int) < 64) = false := decide_eq_false (by omega)
          have hrd : RdR wr A' R := by
            have h := hRD.out
            rwa [List.take_of_length_le (by have := hRl.out; omega)] at h
          have s1 := MK.putB (MK.putR (show MT w0 wr [] from ⟨trivial, hbr.out, fun p hp => by simp at hp⟩) hrd) hGm
          clear hG hB hbr hrd hGm hts hRat hRl hs g0 g1 g2 f2 hGs hRD
          obtain ⟨b0, b1, b2⟩ := BxM.cells (MK.get s1 0 rfl)
          have HS64 := Lib.hid hs64
          clear hs64
          go_wp2_with fail
          clear b0 b1 b2
          have hr1' : RdR wr A' (Mc.rg9 n).r := by rw [HRR.out]; exact MK.get s1 1 rfl
          refine (kqMin n A' s c' _ HD.out.1 hn1 HS64.out hr1').mono ?_
          rintro e w1 ⟨P, rfl, hb⟩
          have s2 := MK.putB (g := w1.heap.size) (MT.alloc (MT.next s1 hb) (.cells #[.int .i64 1, .int .i64 2, .slice (some ⟨P, 0, none⟩) n n] 24)) (heap_alloc_new w1 _)
          clear s1 hb hr1'
          go_upto_region 10 with fail
          obtain ⟨gc, hgc⟩ : ∃ g, w1.heap.size = g := ⟨_, rfl⟩
          obtain ⟨W1, hW1⟩ : ∃ W, w1.alloc (.cells #[.int .i64 1, .int .i64 2, .slice (some ⟨P, 0, none⟩) n n] 24) = W := ⟨_, rfl⟩
          rw [hgc, hW1] at s2
          try rw [hgc]
          try rw [hW1]
          clear hgc hW1
          obtain ⟨b0, b1, b2⟩ := BxM.cells (MK.get s2 1 rfl)
          have hr2' : RdR W1 A' (Mc.rg9 n).r := by rw [HRR.out]; exact MK.get s2 2 rfl
          go_wp2_with fail
          clear b0 b1 b2
          refine (kqMap n A' s c' _ HD.out.1 hn1 HS64.out hr2' HD.out.2.1).mono ?_
          rintro e w2 ⟨g, rfl, hc1, hc2, hglt, hb⟩
          have s3 := MT.next s2 hb
          clear s2 hb hr2'
          obtain ⟨b0, b1, b2⟩ := BxM.cells (MK.get s3 0 rfl)
          obtain ⟨k63, hk63⟩ : ∃ k, 63 % n = k := ⟨_, rfl⟩
          rw [hk63] at hc1
          have hm1 : (63 : Int).tmod n = k63 := by rw [Int.tmod_eq_emod_of_nonneg (by omega), ← hk63]; exact (Int.natCast_emod 63 n).symm
          have hm2 : (63 : Int) % n = k63 := by rw [← hk63]; exact (Int.natCast_emod 63 n).symm
          obtain ⟨kn, hkn⟩ : ∃ k, n % 64 = k := ⟨_, rfl⟩
          rw [hkn] at hc2
          have hkl : kn < 64 := by omega
          have hm3 : (n : Int).tmod 64 = kn := by rw [Int.tmod_eq_emod_of_nonneg (by omega), ← hkn]; exact (Int.natCast_emod n 64).symm
          have hm4 : (n : Int) % 64 = kn := by rw [← hkn]; exact (Int.natCast_emod n 64).symm
          have hnz : ((n : Int) == 0) = false := by simp; omega
          have hnz2 : (n : Int) ≠ 0 := by omega
          have hnz3 : ¬ (n = 0) := by omega
          have hnz4 : (n == 0) = false := by simp; omega
          have HKN := Lib.hid hkn
          clear hk63 hkn
          go_upto_region 11 with fail
          go_cut [79] from 51 to 79 (fun f wx => f = .bool false ∧ Below w2.heap.size w2 wx)
          case first =>
            have f0 : ∀ y : BW w2, y.out.cell? ⟨gc, 2, none⟩ = some (.slice (some ⟨P, 0, none⟩) n n) := fun y => (y.ok.cell (p := ⟨_, _, none⟩) (heap_lt (show BxM w2 gc 1 2 (some ⟨P, 0, none⟩) n n from MK.get s3 0 rfl))).trans b2
            have f1 : ∀ y : BW w2, y.out.cell? ⟨g, 63, none⟩ = some (.int .i64 k63) := fun y => (y.ok.cell (p := ⟨g, 63, none⟩) hglt).trans hc1
            have f2 : ∀ y : BW w2, y.out.cell? ⟨g, kn, none⟩ = some (.int .i64 0) := fun y => (y.ok.cell (p := ⟨g, kn, none⟩) hglt).trans hc2
            clear s3 b0 b1 b2 hc1 hc2
            go_wp2_with fail
            refine wp_region_quiet_below (by kernel_rfl) (by kernel_rfl) ?_
            repeat (go_big_quiet_step (fail))
            refine wpQuiet_nil ?_
            intro w11 hw11
            obtain ⟨⟨wx, hbW⟩, hw3⟩ := hw11
            dsimp only at hw3
            subst hw3
            go_wp2_with fail
            go_meet
            exact ⟨rfl, hbW⟩
          case rest =>
          obtain ⟨rfl, hbc⟩ := hcut
          have s5 := (MT.next s3 hbc).2.1
          have hbF := Lib.hid (below_next hbw.out s5)
          have HP2 : Hid (Pw2 (n * 2)) := HD.out.2.2
          clear s3 hbc s5 b0 b1 b2 hc1 hc2 hm1 hm2 hm3 hm4
          go_wp2_with fail
          go_roundw
          case rel => exact ⟨n * 2, HP2, by go_num, hbF⟩
          case measure => simp [intOf]; omega
    · have h65 : decide ((n : Int) ≤ 64) = false := decide_eq_false (by omega)
      clear hn1 hn64 hP
      go_wp2_with fail
      obtain ⟨j0, hj0, hy0, hy1, hy2⟩ := info_parts u16_info
      obtain ⟨k0, hk0, hv0, hv1, hv2⟩ := info_parts u8_info
      obtain ⟨w2, rfl⟩ : ∃ w2 : World, w2 = wr := ⟨_, rfl⟩
      have hq0 : Hid (Below w2.heap.size w2 w2) := Below.refl _ _
      go_loopw [8, 9] (fun kv nv wr => ∃ (k : Int) (n : Nat), n ≤ 60 ∧ nv = .int .i64 n ∧ kv = .int .i64 k ∧ 0 ≤ k ∧ k < 100003 ∧ Hid (Below w2.heap.size w2 wr)) (fun _ nv _ => 60 - (intOf nv).toNat)
      case atStart => exact ⟨1, 0, by omega, rfl, rfl, by omega, by omega, hq0⟩
      case round =>
        clear hq0
        obtain ⟨k, n, hn, rfl, rfl, hk0', hk1', hbr⟩ := hrel
        by_cases hn60 : n < 60
        · have hlt' : decide ((n : Int) < 60) = true := by simp; omega
          have hlt2 : (n : Int) < 60 := by omega
          go_wp2_with fail
          obtain ⟨wo, rfl⟩ : ∃ wo : World, wo = wr := ⟨_, rfl⟩
          go_loopw [8, 10, 11, 12] (fun kv lv tv iv wr => ∃ (k : Int) (j : Nat) (zs ts : List Int), j ≤ 18 ∧ iv = .int .i64 j ∧ kv = .int .i64 k ∧ 0 ≤ k ∧ k < 100003 ∧ Hid (wr.ownsRow wo.heap.size 37 1 lv j (u16s zs)) ∧ Hid (∀ z ∈ zs, 0 ≤ z ∧ z ≤ 65535) ∧ Hid (wr.ownsRow wo.heap.size 5 1 tv j (u8s ts)) ∧ Hid (∀ z ∈ ts, 0 ≤ z ∧ z ≤ 255) ∧ Hid (Below wo.heap.size wo wr)) (fun _ _ _ iv _ => 18 - (intOf iv).toNat)
          case atStart => exact ⟨k, 0, [], [], by omega, rfl, rfl, hk0', hk1', World.ownsRow_nil _ _ _ _, (fun z h => by simp at h), World.ownsRow_nil _ _ _ _, (fun z h => by simp at h), Below.refl _ _⟩
          case round =>
            obtain ⟨q, j, zs, ts, hj, rfl, rfl, hq0, hq1, hown0, hzs, howt0, hts, hbr2⟩ := hrel
            by_cases hjl : j < 18
            · have hjl' : decide ((j : Int) < 18) = true := by simp; omega
              obtain ⟨r, hr, hr0, hr1⟩ : ∃ r, (q * 31 + 7 * (j : Int) + 11) % 100003 = r ∧ 0 ≤ r ∧ r < 100003 := ⟨_, rfl, by omega, by omega⟩
              have h8 : ((8 + (n : Int)) == 0) = false := by simp; omega
              have h8' : ¬ (8 + (n : Int) = 0) := by omega
              obtain ⟨z, hz, hz01⟩ : ∃ z, IntKind.u16.wrap (r.tmod (8 + (n : Int))) = z ∧ Hid (0 ≤ z ∧ z ≤ 65535) := ⟨_, rfl, u16_bd _⟩
              have hzm : IntKind.u16.wrap (r % (8 + (n : Int))) = z := by rw [← hz, Int.tmod_eq_emod_of_nonneg hr0]
              obtain ⟨t, ht, ht01⟩ : ∃ t, r / 7 % 256 = t ∧ Hid (0 ≤ t ∧ t ≤ 255) := ⟨_, rfl, by show _ ∧ _; omega⟩
              have hsz := hbr2.out.size
              have h1 := Lib.hid (cell_one_new wr (t := 37) (.int .u16 z))
              have h2 : Hid (∀ u ∈ ([.int .u16 z] : List Value), u.oneCell' = true) := fun u hu => by simp at hu; subst hu; rfl
              have h3 : j + 1 ≤ maxLen := by unfold maxLen; omega
              have h4 : (j + 1) * 2 ≤ 140737488355328 := by omega
              have h4' : (j + 1) * 1 ≤ 140737488355328 := by omega
              have h5 : wo.heap.size ≤ (wr.alloc (.cells #[.int .u16 z] 37)).heap.size := by simp; omega
              have hownA := hown0.out.alloc (.cells #[.int .u16 z] 37)
              have howtA := Lib.hid (howt0.out.alloc (.cells #[.int .u16 z] 37))
              have hap := own_apart howtA.out hownA (show (5 : TypeId) ≠ 37 by decide)
              go_wp2_with (at_builtin; refine wpList_append_own _ rfl _ _ 35 rfl wo.heap.size 37 j0 (.int .u16 0) 1 2 Try.underlying35 hj0 hy0 hy1 hy2 rfl (by decide) _ _ _ rfl hownA ⟨wr.heap.size, 0, none⟩ 1 1 [.int .u16 z] rfl rfl h1.out h2.out h3 h4 h5 ?_)
              intro v1 w5 hown1 hg1 _
              have hbr3 : Below wo.heap.size wo w5 := (hbr2.out.alloc hsz _).grown hg1 h5 (fun j hj => (hownA.lt j hj).1)
              have howt1 := Lib.hid (howtA.out.kept hg1 hap)
              rw [u16s_snoc] at hown1
              have hown3 := Lib.hid hown1
              have hzs2 : Hid (∀ y ∈ zs ++ [z], 0 ≤ y ∧ y ≤ 65535) := fun y hy => by
                rcases List.mem_append.1 hy with h | h
                · exact hzs.out y h
                · simp at h; subst h; exact hz01.out
              have hts2 : Hid (∀ y ∈ ts ++ [t], 0 ≤ y ∧ y ≤ 255) := fun y hy => by
                rcases List.mem_append.1 hy with h | h
                · exact hts.out y h
                · simp at h; subst h; exact ht01.out
              have hHB := Lib.hid hbr3
              clear hown1 hg1 hownA h1 h2 h4 h5 hown0 hz howt0 howtA hap hbr2 hsz hbr3
              have hsz := hHB.out.size
              have e1 := Lib.hid (cell_one_new w5 (t := 5) (.int .u8 t))
              have e2 : Hid (∀ u ∈ ([.int .u8 t] : List Value), u.oneCell' = true) := fun u hu => by simp at hu; subst hu; rfl
              have e5 : wo.heap.size ≤ (w5.alloc (.cells #[.int .u8 t] 5)).heap.size := by simp; omega
              have howtB := howt1.out.alloc (.cells #[.int .u8 t] 5)
              have hownB := Lib.hid (hown3.out.alloc (.cells #[.int .u8 t] 5))
              have hap := own_apart hownB.out howtB (show (37 : TypeId) ≠ 5 by decide)
              go_wp2_with (at_builtin; refine wpList_append_own _ rfl _ _ 36 rfl wo.heap.size 5 k0 (.int .u8 0) 1 1 Try.underlying36 hk0 hv0 hv1 hv2 rfl (by decide) _ _ _ rfl howtB ⟨w5.heap.size, 0, none⟩ 1 1 [.int .u8 t] rfl rfl e1.out e2.out h3 h4' e5 ?_)
              intro v2 w6 howt2 hg2 _
              have hbr4 := Lib.hid ((hHB.out.alloc hsz (.cells #[.int .u8 t] 5)).grown hg2 e5 (fun j hj => (howtB.lt j hj).1))
              have hown4 := Lib.hid (hownB.out.kept hg2 hap)
              rw [u8s_snoc] at howt2
              have howt4 := Lib.hid howt2
              clear howt2 hg2 howtB hownB hown3 howt1 e1 e2 e5 hHB hsz hap ht h3 h4'
              go_wp2
              go_roundw
              case rel => exact ⟨r, j + 1, _, _, by omega, by go_num, rfl, hr0, hr1, hown4, hzs2, howt4, hts2, hbr4⟩
              case measure => simp [intOf]; omega
            · have hjl' : decide ((j : Int) < 18) = false := by simp; omega
              have hj1000 : j ≤ 1000 := by omega
              obtain ⟨Ls, cl, rfl, hcl⟩ := own_slice hown0.out
              obtain ⟨Ts, ct, rfl, hct⟩ := own_slice howt0.out
              have HZL : Hid (zs.length = j) := by have := hown0.out.1; rw [u16s_len] at this; show _ = _; omega
              have HTL : Hid (ts.length = j) := by have := howt0.out.1; rw [u8s_len] at this; show _ = _; omega
              have hbW := below_next hbr.out hbr2.out
              have s5 := MT.putK (P := fun w => Rd8 w Ts ts) (MT.putK (P := fun w => Rd16 w Ls zs) (show MT w2 wr [] from ⟨trivial, hbW, fun p hp => by simp at hp⟩) (Rd16.of_own hown0.out hzs.out) (fun _ _ h hb => h.below hb)) (Rd8.of_own howt0.out hts.out) (fun _ _ h hb => h.below hb)
              clear hown0 howt0 hjl hbr hbr2 hbW
              obtain ⟨n3, hn3, m3⟩ : ∃ m, (n : Int) / 3 = m ∧ Hid (0 ≤ m ∧ m ≤ 255) := ⟨_, rfl, by show _ ∧ _; omega⟩
              obtain ⟨pb, hpb⟩ : ∃ b, ((n : Int) % 2 == 0) = b := ⟨_, rfl⟩
              obtain ⟨k8, hk8, m8⟩ : ∃ m, q % 256 = m ∧ Hid (0 ≤ m ∧ m ≤ 255) := ⟨_, rfl, by show _ ∧ _; omega⟩
              obtain ⟨k7, hk7, m7⟩ : ∃ m, q / 7 % 256 = m ∧ Hid (0 ≤ m ∧ m ≤ 255) := ⟨_, rfl, by show _ ∧ _; omega⟩
              have mn : Hid (0 ≤ (n : Int) ∧ (n : Int) ≤ 255) := by show _ ∧ _; omega
              have m1 : Hid (0 ≤ (1 : Int) ∧ (1 : Int) ≤ 255) := by show _ ∧ _; omega
              obtain ⟨G, hG⟩ : ∃ G, wr.heap.size = G := ⟨_, rfl⟩
              have s6 := MT.putK (P := fun w => w.heap[G]? = some (.cells #[.int .u8 n, .int .u8 n3, .int .u8 1, .bool pb, .slice Ls j cl] 39)) (MT.alloc s5 (.cells #[.int .u8 n, .int .u8 n3, .int .u8 1, .bool pb, .slice Ls j cl] 39)) (by rw [← hG]; exact heap_alloc_new wr _) (fun _ _ h hb => (hb.block _ (heap_lt h)).trans h)
              have s7 := MT.putK (P := fun w => Rd8 w (some ⟨G + 1, 0, none⟩) [k8, n, 1, 2, k7]) (MT.alloc s6 (.cells #[.int .u8 k8, .int .u8 n, .int .u8 1, .int .u8 2, .int .u8 k7] 5)) (by
                have h := rd8_lit (wr.alloc (.cells #[.int .u8 n, .int .u8 n3, .int .u8 1, .bool pb, .slice Ls j cl] 39)) [k8, n, 1, 2, k7] (fun z hz => by
                  have := m8.out; have := m7.out; have := mn.out
                  simp at hz
                  rcases hz with rfl | rfl | rfl | rfl | rfl <;> omega)
                rw [World.size_alloc, hG] at h
                exact h) (fun _ _ h hb => h.below hb)
              have s8 := MT.putK (P := fun w => w.heap[G + 1 + 1]? = some (.cells #[.slice (some ⟨G + 1, 0, none⟩) 5 5] 41)) (MT.alloc s7 (.cells #[.slice (some ⟨G + 1, 0, none⟩) 5 5] 41)) (by
                have h := heap_alloc_new ((wr.alloc (.cells #[.int .u8 n, .int .u8 n3, .int .u8 1, .bool pb, .slice Ls j cl] 39)).alloc (.cells #[.int .u8 k8, .int .u8 n, .int .u8 1, .int .u8 2, .int .u8 k7] 5)) (.cells #[.slice (some ⟨G + 1, 0, none⟩) 5 5] 41)
                rw [World.size_alloc, World.size_alloc, hG] at h
                exact h) (fun _ _ h hb => (hb.block _ (heap_lt h)).trans h)
              have s9 := MT.putK (P := fun w => w.heap[G + 1 + 1 + 1]? = some (.cells #[.int .u8 n, .int .u8 n3, .int .u8 1, .slice Ts j ct, .slice Ls j cl] 43)) (MT.alloc s8 (.cells #[.int .u8 n, .int .u8 n3, .int .u8 1, .slice Ts j ct, .slice Ls j cl] 43)) (by
                have h := heap_alloc_new (((wr.alloc (.cells #[.int .u8 n, .int .u8 n3, .int .u8 1, .bool pb, .slice Ls j cl] 39)).alloc (.cells #[.int .u8 k8, .int .u8 n, .int .u8 1, .int .u8 2, .int .u8 k7] 5)).alloc (.cells #[.slice (some ⟨G + 1, 0, none⟩) 5 5] 41)) (.cells #[.int .u8 n, .int .u8 n3, .int .u8 1, .slice Ts j ct, .slice Ls j cl] 43)
                rw [World.size_alloc, World.size_alloc, World.size_alloc, hG] at h
                exact h) (fun _ _ h hb => (hb.block _ (heap_lt h)).trans h)
              clear s5 s6 s7 s8
              have hw1 : IntKind.u8.wrap (n : Int) = n := IntWalk.u8_in _ (by omega)
              have hw2 : IntKind.u8.wrap q = k8 := by rw [IntKind.wrap_u8]; exact hk8
              have hw3 : (n : Int).tdiv 3 = n3 := by rw [Int.tdiv_eq_ediv_of_nonneg (by omega)]; exact hn3
              have hw5 : IntKind.u8.wrap n3 = n3 := IntWalk.u8_in _ m3.out
              go_upto_region 28 with fail
              try rw [hG]
              obtain ⟨W, hW⟩ : ∃ W, (((wr.alloc (.cells #[.int .u8 n, .int .u8 n3, .int .u8 1, .bool pb, .slice Ls j cl] 39)).alloc (.cells #[.int .u8 k8, .int .u8 n, .int .u8 1, .int .u8 2, .int .u8 k7] 5)).alloc (.cells #[.slice (some ⟨G + 1, 0, none⟩) 5 5] 41)).alloc (.cells #[.int .u8 n, .int .u8 n3, .int .u8 1, .slice Ts j ct, .slice Ls j cl] 43) = W := ⟨_, rfl⟩
              rw [hW] at s9 ⊢
              clear hW hG
              have HKM : Hid (∀ (V : World) (L : List (World → Prop)), MT w2 V L → L[3]? = some (fun w => w.heap[G]? = some (.cells #[.int .u8 n, .int .u8 n3, .int .u8 1, .bool pb, .slice Ls j cl] 39)) → (V.cell? ⟨G, 0, none⟩ = some (.int .u8 n) ∧ V.cell? ⟨G, 1, none⟩ = some (.int .u8 n3) ∧ V.cell? ⟨G, 2, none⟩ = some (.int .u8 1) ∧ V.cell? ⟨G, 3, none⟩ = some (.bool pb) ∧ V.cell? ⟨G, 4, none⟩ = some (.slice Ls j cl))) := fun V L h hL => by
                have h1 := MK.get h 3 hL
                refine ⟨?_, ?_, ?_, ?_, ?_⟩ <;> (rw [cell_of_row _ _ _ _ _ _ h1]; rfl)
              have HKW : Hid (∀ (V : World) (L : List (World → Prop)), MT w2 V L → L[1]? = some (fun w => w.heap[G + 1 + 1]? = some (.cells #[.slice (some ⟨G + 1, 0, none⟩) 5 5] 41)) → V.cell? ⟨G + 1 + 1, 0, none⟩ = some (.slice (some ⟨G + 1, 0, none⟩) 5 5)) := fun V L h hL => by
                have h1 := MK.get h 1 hL
                rw [cell_of_row _ _ _ _ _ _ h1]; rfl
              have HKC : Hid (∀ (V : World) (L : List (World → Prop)), MT w2 V L → L[0]? = some (fun w => w.heap[G + 1 + 1 + 1]? = some (.cells #[.int .u8 n, .int .u8 n3, .int .u8 1, .slice Ts j ct, .slice Ls j cl] 43)) → (V.cell? ⟨G + 1 + 1 + 1, 0, none⟩ = some (.int .u8 n) ∧ V.cell? ⟨G + 1 + 1 + 1, 1, none⟩ = some (.int .u8 n3) ∧ V.cell? ⟨G + 1 + 1 + 1, 2, none⟩ = some (.int .u8 1) ∧ V.cell? ⟨G + 1 + 1 + 1, 3, none⟩ = some (.slice Ts j ct) ∧ V.cell? ⟨G + 1 + 1 + 1, 4, none⟩ = some (.slice Ls j cl))) := fun V L h hL => by
                have h1 := MK.get h 0 hL
                refine ⟨?_, ?_, ?_, ?_, ?_⟩ <;> (rw [cell_of_row _ _ _ _ _ _ h1]; rfl)
              obtain ⟨m6, hm6, hm6l⟩ : ∃ m : Nat, n % 6 = m ∧ m < 6 := ⟨_, rfl, by omega⟩
              have hw7 : (n : Int) % 6 = m6 := by omega
              have hw8 : (n : Int).tmod 6 = m6 := by rw [Int.tmod_eq_emod_of_nonneg (by omega)]; exact hw7
              have C1 := fun w hr hw => k9Min n n3 1 pb Ls j cl zs w hr HZL.out hj1000 mn.out m3.out m1.out (some ⟨G + 1, 0, none⟩) 5 5 [k8, n, 1, 2, k7] hw rfl (by decide)
              have C2 := fun w hr hw => k9Map n n3 1 pb Ls j cl zs w hr HZL.out hj1000 mn.out m3.out m1.out (some ⟨G + 1, 0, none⟩) 5 5 [k8, n, 1, 2, k7] hw rfl (by decide)
              have C3 := fun w hr => k9Uni n n3 1 pb Ls j cl zs w hr HZL.out hj1000 mn.out m3.out m1.out
              have C4 := fun w hr ht => k9Prp n n3 1 pb Ls j cl zs w hr HZL.out hj1000 mn.out m3.out m1.out Ts j ct ts ht HTL.out hj1000
              have C5 := fun P l e0 f hl w hf hr hw => k9Hom n n3 1 pb Ls j cl zs w hr HZL.out hj1000 mn.out m3.out m1.out P l e0 f hf hl (some ⟨G + 1, 0, none⟩) 5 5 [k8, n, 1, 2, k7] hw rfl (by decide)
              have C6 := fun w hr ht => k9K n n3 1 Ls j cl zs w hr HZL.out hj1000 mn.out m3.out m1.out Ts j ct ts ht HTL.out hj1000
              have HS : Hid (∀ (W : World) (L : List (World → Prop)), MT w2 W L → L[0]? = some (fun w => w.heap[G + 1 + 1 + 1]? = some (.cells #[.int .u8 n, .int .u8 n3, .int .u8 1, .slice Ts j ct, .slice Ls j cl] 43)) → L[1]? = some (fun w => w.heap[G + 1 + 1]? = some (.cells #[.slice (some ⟨G + 1, 0, none⟩) 5 5] 41)) → L[3]? = some (fun w => w.heap[G]? = some (.cells #[.int .u8 n, .int .u8 n3, .int .u8 1, .bool pb, .slice Ls j cl] 39)) → (W.cell? ⟨G, 0, none⟩ = some (.int .u8 n) ∧ W.cell? ⟨G, 1, none⟩ = some (.int .u8 n3) ∧ W.cell? ⟨G, 2, none⟩ = some (.int .u8 1) ∧ W.cell? ⟨G, 3, none⟩ = some (.bool pb) ∧ W.cell? ⟨G, 4, none⟩ = some (.slice Ls j cl) ∧ W.cell? ⟨G + 1 + 1, 0, none⟩ = some (.slice (some ⟨G + 1, 0, none⟩) 5 5) ∧ W.cell? ⟨G + 1 + 1 + 1, 0, none⟩ = some (.int .u8 n) ∧ W.cell? ⟨G + 1 + 1 + 1, 1, none⟩ = some (.int .u8 n3) ∧ W.cell? ⟨G + 1 + 1 + 1, 2, none⟩ = some (.int .u8 1) ∧ W.cell? ⟨G + 1 + 1 + 1, 3, none⟩ = some (.slice Ts j ct) ∧ W.cell? ⟨G + 1 + 1 + 1, 4, none⟩ = some (.slice Ls j cl))) := fun V L h h0 h1 h3 => by
                obtain ⟨x0, x1, x2, x3, x4⟩ := HKM.out V L h h3
                obtain ⟨z0, z1, z2, z3, z4⟩ := HKC.out V L h h0
                exact ⟨x0, x1, x2, x3, x4, HKW.out V L h h1, z0, z1, z2, z3, z4⟩
              obtain ⟨l6, hl6, hl7⟩ : ∃ l : Nat, (1 + (m6 : Int)) = l ∧ l ≤ 6 := ⟨1 + m6, by omega, by omega⟩
              have hsl1 : IntKind.i64.wrap (1 + (m6 : Int)) = (l6 : Int) := by rw [IntWalk.i64_in _ (by omega)]; exact hl6
              have hsl2 : (0 : Int) ≤ (l6 : Int) := by omega
              have hsl4 : IntKind.i64.wrap (l6 : Int) = l6 := IntWalk.i64_in _ (by omega)
              have hsl3 : (l6 : Int) ≤ 6 := by omega
              clear HKM HKW HKC hk7
              go_cut [176] from 136 to 176 (fun f wx => f = .bool false ∧ Below w2.heap.size w2 wx)
              case first =>
                have sD := MT.next s9 (Below.refl _ _).drew
                clear s9
                go_region_held3 (fun W => W.cell? ⟨G, 0, none⟩ = some (.int .u8 n) ∧ W.cell? ⟨G, 1, none⟩ = some (.int .u8 n3) ∧ W.cell? ⟨G, 2, none⟩ = some (.int .u8 1) ∧ W.cell? ⟨G, 3, none⟩ = some (.bool pb) ∧ W.cell? ⟨G, 4, none⟩ = some (.slice Ls j cl) ∧ W.cell? ⟨G + 1 + 1, 0, none⟩ = some (.slice (some ⟨G + 1, 0, none⟩) 5 5) ∧ W.cell? ⟨G + 1 + 1 + 1, 0, none⟩ = some (.int .u8 n) ∧ W.cell? ⟨G + 1 + 1 + 1, 1, none⟩ = some (.int .u8 n3) ∧ W.cell? ⟨G + 1 + 1 + 1, 2, none⟩ = some (.int .u8 1) ∧ W.cell? ⟨G + 1 + 1 + 1, 3, none⟩ = some (.slice Ts j ct) ∧ W.cell? ⟨G + 1 + 1 + 1, 4, none⟩ = some (.slice Ls j cl))
                (first | exact HS.out _ _ t6 rfl rfl rfl | exact HS.out _ _ t5 rfl rfl rfl | exact HS.out _ _ (MT.alloc t4 _) rfl rfl rfl | exact HS.out _ _ t4 rfl rfl rfl | exact HS.out _ _ t3 rfl rfl rfl | exact HS.out _ _ t2 rfl rfl rfl | exact HS.out _ _ t1 rfl rfl rfl | exact HS.out _ _ sD rfl rfl rfl | go_keep)
                (first
                | (go_at_call 13
                   have TT := C1 _ (MK.get sD 5 rfl) (MK.get sD 2 rfl)
                   refine TT.mono ?_
                   rintro e v1 ⟨rfl, hbl1⟩
                   have t1 := MT.next sD hbl1
                   dsimp only)
                | (go_at_call 14
                   have TT := C2 _ (MK.get t1 5 rfl) (MK.get t1 2 rfl)
                   refine TT.mono ?_
                   rintro e v2 ⟨rfl, hbl2⟩
                   have t2 := MT.next t1 hbl2
                   dsimp only)
                | (go_at_call 15
                   have TT := C3 _ (MK.get t2 5 rfl)
                   refine TT.mono ?_
                   rintro e v3 ⟨rfl, hbl3⟩
                   have t3 := MT.next t2 hbl3
                   dsimp only)
                | (go_at_call 16
                   have TT := C4 _ (MK.get t3 5 rfl) (MK.get t3 4 rfl)
                   refine TT.mono ?_
                   rintro e v4 ⟨rfl, hbl4⟩
                   have t4 := MT.next t3 hbl4
                   dsimp only)
                | (go_at_call 17
                   have TT := C5 (some ⟨v4.heap.size, 0, none⟩) l6 6 (([0, 1, 2, 3, 4, 5] : List Int).take l6) (six_len hl7) _ (rd_six v4 l6) (MK.get (MT.alloc t4 (.cells #[.int .i64 0, .int .i64 1, .int .i64 2, .int .i64 3, .int .i64 4, .int .i64 5] 3)) 5 rfl) (MK.get (MT.alloc t4 (.cells #[.int .i64 0, .int .i64 1, .int .i64 2, .int .i64 3, .int .i64 4, .int .i64 5] 3)) 2 rfl)
                   refine TT.mono ?_
                   rintro e v5 ⟨rfl, hbl5⟩
                   have t5 := MT.next (MT.alloc t4 (.cells #[.int .i64 0, .int .i64 1, .int .i64 2, .int .i64 3, .int .i64 4, .int .i64 5] 3)) hbl5
                   dsimp only)
                | (go_at_call 18
                   have TT := C6 _ (MK.get t5 5 rfl) (MK.get t5 4 rfl)
                   refine TT.mono ?_
                   rintro e v6 ⟨rfl, hbl6⟩
                   have t6 := MT.next t5 hbl6
                   dsimp only)
                | fail)
                all_goals
                  go_wp2_with fail
                  go_meet
                  exact ⟨rfl, t6.2.1⟩
              case rest =>
              obtain ⟨rfl, hbc⟩ := hcut
              have hbc := Lib.hid hbc
              clear s9
              go_wp2_with fail
              go_roundw
              case rel => exact ⟨q, n + 1, by omega, by go_num, rfl, hq0, hq1, hbc⟩
              case measure => simp [intOf]; omega
        · have hlt' : decide ((n : Int) < 60) = false := by simp; omega
          have hbF := below_next hbw.out hbr.out
          go_wp2_with fail
          refine (qlives_walk _).mono ?_
          rintro e wz ⟨rfl, hb⟩
          go_wp2
          go_ret
          exact ⟨rfl, below_next hbF hb⟩
end Go.Proofs.Ytnodnfailjmpeaa
