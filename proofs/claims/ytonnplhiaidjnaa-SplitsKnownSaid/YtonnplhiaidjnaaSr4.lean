/-
  The walk of the law SplitsLadder. No statement is proved here.
-/
import Derived.Test.YtonnplhiaidjnaaSr0
import Derived.Test.YtonnplhiaidjnaaSqT
namespace Go.Proofs.Ytonnplhiaidjnaa
open Go.RowKit
open Mc (Ed Ma)

namespace Mc
theorem hgtTo_ex {m : Ma} {n : Nat} : ∀ {k : Nat}, k ≤ (prs n).length → hgtTo m n k ≠ 0 → ∃ (j : Nat) (p : Nat × Nat), (prs n)[j]? = some p ∧ sl m p.1 p.2 = hgtTo m n k
  | 0, _, h => absurd rfl h
  | k + 1, hk, h => by
    have hk2 := List.getElem?_eq_getElem (l := prs n) (i := k) (by omega)
    rw [hgtTo_step hk2] at h ⊢
    by_cases e : hgtTo m n k ≤ sl m ((prs n)[k]).1 ((prs n)[k]).2
    · exact ⟨k, (prs n)[k], hk2, (Nat.max_eq_right e).symm⟩
    · rw [Nat.max_eq_left (by omega)] at h ⊢
      exact hgtTo_ex (m := m) (k := k) (by omega) h
/-- A pair of each length up to the height. -/
theorem ladder_ex {m : Ma} (v : Val m) {n : Nat} (hn : m.r.length = n) {L : Nat} (h1 : 1 ≤ L) (h2 : L ≤ hgtTo m n (prs n).length) : ∃ (j : Nat) (p : Nat × Nat), (prs n)[j]? = some p ∧ sl m p.1 p.2 = L := by
  obtain ⟨j, p, h3, h4⟩ := hgtTo_ex (m := m) (n := n) (Nat.le_refl _) (by omega)
  obtain ⟨h5, h6⟩ := prs_lt h3
  obtain ⟨L', rfl⟩ : ∃ L', L = L' + 1 := ⟨L - 1, by omega⟩
  obtain ⟨a, b, h7, h8, h9⟩ := sl_ladder (L := L') v (hgtTo m n (prs n).length - (L' + 1)) (a := p.1) (b := p.2) (by omega) (by omega) (by omega)
  rw [hn] at h7 h8
  rcases Nat.lt_trichotomy a b with h | h | h
  · obtain ⟨j', h10⟩ := List.mem_iff_getElem?.1 (prs_mem.2 ⟨h, h8⟩)
    exact ⟨j', _, h10, h9⟩
  · subst h; rw [sl_same] at h9; omega
  · obtain ⟨j', h10⟩ := List.mem_iff_getElem?.1 (prs_mem.2 ⟨h, h7⟩)
    exact ⟨j', _, h10, by rw [sl_comm]; exact h9⟩
/-- Behind its first symbol. -/
theorem sepw_step {m : Ma} (v : Val m) {s t L : Nat} (hs : s < m.r.length) (ht : t < m.r.length) (h : sl m s t = L + 2) :
    ∃ c a b : Nat, (c : Int) < m.i ∧ a < m.r.length ∧ b < m.r.length ∧ sl m a b = L + 1 ∧ sepw m s t = (c : Int) :: sepw m a b ∧ aft m s [(c : Int)] = a ∧ aft m t [(c : Int)] = b := by
  obtain ⟨h1, _, _⟩ := sm_hit v hs ht (by omega)
  rcases sw_next v hs ht (L := L + 1) h with ⟨h2, _⟩ | ⟨_, _, a, b, e1, e2, h3, h4, h5⟩
  · omega
  · refine ⟨sm m s t, a, b, h1, h3, h4, h5, ?_, ?_, ?_⟩
    · unfold sepw
      rw [h, h5]
      show (sm m s t : Int) :: sw m (L + 1) (nx m s (sm m s t)).1.toNat (nx m t (sm m s t)).1.toNat = _
      rw [e1, e2, Int.toNat_natCast, Int.toNat_natCast]
    · exact e1
    · exact e2
end Mc
theorem rafter04_at (m : Ma) (i : Nat) (o s z : Int) (A W : Option Addr) (n c k d : Nat) (ws : List Int) (w : World) (v : Mc.Val m) (hi : m.i = i) (ho : m.o = o) (hn : m.r.length = n) (hk : ws.length = k) (hr : RdR w A m.r) (hw : Rd w W ws) (hs : Mc.St m s) (hwd : Mc.Wd m ws) (hd : k ≤ d) (hz : Mc.aft m s ws = z) :
    Calls Try.prog 42 #[.agg #[.int .i64 i, .int .i64 o, .slice A n c], .int .i64 s, .slice W k d] w fun e w' => e = .returned (.int .i64 z) ∧ Below w.heap.size w w' := by
  subst ho hn hz
  rw [← hi]
  exact rafter_any m A c v ws s W k d w hr hw hs hwd hk hd
set_option maxRecDepth 100000 in
set_option maxHeartbeats 8000000 in
theorem lawLadder_walk (a b d : Int) (p : Bool) (A : Option Addr) (c : Nat) (es : List Int) (w : World) (hr : Rd16 w A es) (hl : es.length ≤ 9223372036854775807) (ha : 0 ≤ a ∧ a ≤ 255) (hb : 0 ≤ b ∧ b ≤ 255) (hd : 0 ≤ d ∧ d ≤ 255) :
    Calls Try.prog 10 #[.agg #[.int .u8 a, .int .u8 b, .int .u8 d, .bool p, .slice A es.length c]] w fun e w' => e = .returned (.bool true) ∧ Below w.heap.size w w' := by
  obtain ⟨n, hn⟩ : ∃ n : Nat, 1 + a % 6 = n := ⟨(1 + a % 6).toNat, by omega⟩
  obtain ⟨i, hi⟩ : ∃ i : Nat, 1 + b % 3 = i := ⟨(1 + b % 3).toNat, by omega⟩
  obtain ⟨o, ho⟩ : ∃ o : Nat, 1 + d % 3 = o := ⟨(1 + d % 3).toNat, by omega⟩
  have hn6 : n ≤ 6 := by omega
  have hn1 : 1 ≤ n := by omega
  have CM := fun w hr => mof_at a b d p A c es n i o w hr hl ha hb hd hn hi ho
  obtain ⟨M, hM⟩ : ∃ M, Mc.mkN p n i o es = M := ⟨_, rfl⟩
  have V := Lib.hid (Mc.mkN_val (p := p) (n := n) (i := i) (o := o) (es := es) (by omega) (by omega) (by omega) (by omega) (by omega) (by omega))
  have hlen : Hid ((Mc.mkN p n i o es).r.length = n) := Mc.mkN_len _ _ _ _ _
  have hmi : Hid ((Mc.mkN p n i o es).i = i) := rfl
  have hmo : Hid ((Mc.mkN p n i o es).o = o) := rfl
  rw [hM] at V hlen hmi hmo
  simp only [hM] at CM
  have HR := Lib.hid hr
  obtain ⟨E2, hE2⟩ : ∃ E, es.length = E := ⟨_, rfl⟩
  simp only [hE2] at CM
  rw [hE2]
  obtain ⟨N, hN⟩ : ∃ N, (Mc.prs n).length = N := ⟨_, rfl⟩
  have CT := fun R c1 w hr => table_ok M i o R n c1 w V.out hmi.out hmo.out hlen.out hr
  have CH := fun R c1 w hr => height_ok M i o R n c1 w V.out hmi.out hmo.out hlen.out hr
  obtain ⟨H0, hH0⟩ : ∃ H, Mc.hgt M = H := ⟨_, rfl⟩
  have hHn : H0 < n := by rw [← hH0, ← hlen.out]; exact Mc.hgt_lt V.out
  have HH0 : Hid (Mc.hgtTo M n N = H0) := by show _ = _; rw [← hH0, ← hN, ← hlen.out]; rfl
  rw [hH0] at CH
  rw [hN] at CT
  have HNN := Lib.hid hN
  have hN6 : N ≤ 36 := by
    have h1 := Mc.prs_two n
    rw [hN] at h1
    have := Nat.mul_le_mul hn6 hn6
    omega
  have CS := fun R c1 w s t L b hr hs ht hL hb => separate_b M i o R n c1 w s t L b V.out hmi.out hmo.out hlen.out hr hs ht hL hb
  have CA := fun (s z : Nat) R W c1 k d ws w hk hr hw hs hwd hd hz => rafter04_at M i o s z R W n c1 k d ws w V.out hmi.out hmo.out hlen.out hk hr hw hs hwd hd hz
  have g1 : decide ((n : Int) ≤ H0) = false := decide_eq_false (by omega)
  have g2 : ¬ ((n : Int) ≤ H0) := by omega
  have g3 : decide ((H0 : Int) < 0) = false := decide_eq_false (by omega)
  have g4 : ¬ ((H0 : Int) < 0) := by omega
  clear hH0 hN
  clear hM ha hb hd hn hi ho hl hr hE2
  obtain ⟨K0, hK0⟩ : ∃ K0, w.heap.size = K0 := ⟨_, rfl⟩
  have s0 : MT w w [] := MT.start
  have s1 := MT.putK (P := fun w => w.heap[K0]? = some (.cells #[.int .u8 a, .int .u8 b, .int .u8 d, .bool p, .slice A E2 c] 24)) (MT.alloc s0 (.cells #[.int .u8 a, .int .u8 b, .int .u8 d, .bool p, .slice A E2 c] 24))
    (by rw [← hK0]; exact heap_alloc_new w _) (fun _ _ h hb => (hb.block _ (heap_lt h)).trans h)
  clear s0
  go_enter Try.func10, Try.ntmps10
  go_upto_region 1 with fail
  obtain ⟨W0, hW0⟩ : ∃ W0, w.alloc (.cells #[.int .u8 a, .int .u8 b, .int .u8 d, .bool p, .slice A E2 c] 24) = W0 := ⟨_, rfl⟩
  rw [hW0] at s1
  try rw [hW0]
  try rw [hK0]
  clear hW0 hK0
  have kM : W0.cell? ⟨K0, 0, none⟩ = some (.int .u8 a) ∧ W0.cell? ⟨K0, 1, none⟩ = some (.int .u8 b) ∧ W0.cell? ⟨K0, 2, none⟩ = some (.int .u8 d) ∧ W0.cell? ⟨K0, 3, none⟩ = some (.bool p) ∧ W0.cell? ⟨K0, 4, none⟩ = some (.slice A E2 c) := by
    have h1 := MK.get s1 0 rfl
    refine ⟨?_, ?_, ?_, ?_, ?_⟩ <;> (rw [cell_of_row _ _ _ _ _ _ h1]; rfl)
  obtain ⟨c0, c1, c2, c3, c4⟩ := kM
  go_wp2_with fail
  clear c0 c1 c2 c3 c4
  refine (CM _ (HR.out.below s1.2.1)).mono ?_
  rintro e w1 ⟨R, c1, rfl, hrd, hbl⟩
  have s3 := MK.putB (g := w1.heap.size) (MT.alloc (MK.putR (MT.next s1 hbl) hrd) (.cells #[.int .i64 i, .int .i64 o, .slice R n c1] 27)) (heap_alloc_new w1 _)
  clear s1 hrd hbl CM HR
  go_upto_region 2 with fail
  obtain ⟨g, hg⟩ : ∃ g, w1.heap.size = g := ⟨_, rfl⟩
  obtain ⟨W2, hW2⟩ : ∃ W, w1.alloc (.cells #[.int .i64 i, .int .i64 o, .slice R n c1] 27) = W := ⟨_, rfl⟩
  rw [hg, hW2] at s3
  try rw [hg]
  try rw [hW2]
  clear hg hW2
  obtain ⟨m0, m1, m2⟩ := BxM.cells (MK.get s3 0 rfl)
  go_wp2_with fail
  clear m0 m1 m2
  refine (CT R c1 _ (MK.get s3 1 rfl)).mono ?_
  rintro e w3 ⟨G, rfl, hPT, hbl⟩
  have s4 := MT.putK (P := fun w => PrT M w G (Mc.prs n)) (MT.next s3 hbl) hPT (fun _ _ h hb => h.below hb)
  clear s3 hPT hbl CT
  obtain ⟨m0, m1, m2⟩ := BxM.cells (MK.get s4 1 rfl)
  go_wp2_with fail
  clear m0 m1 m2
  refine (CH R c1 _ (MK.get s4 2 rfl)).mono ?_
  rintro e w4 ⟨rfl, hbl⟩
  have s5 := MT.next s4 hbl
  clear s4 hbl CH
  obtain ⟨m0, m1, m2⟩ := BxM.cells (MK.get s5 1 rfl)
  have S5 := Lib.hid s5
  have S4 := Lib.hid s5
  clear s5
  go_wp2_with (at_make; refine wpList_make_bools _ rfl _ _ rfl _ (H0 + 1) rfl rfl (by omega) (by omega) ?_)
  intro w5 hT0 hb5
  obtain ⟨T, hT⟩ : ∃ T, w4.heap.size = T := ⟨_, rfl⟩
  rw [hT] at hT0
  try rw [hT]
  clear m0 m1 m2
  have hb5 := Lib.hid hb5
  go_wp2_with fail
  have hI0 : Hid (∀ j p, j < 0 → (Mc.prs n)[j]? = some p → (List.replicate (H0 + 1) false)[Mc.sl M p.1 p.2]? = some true) := fun j p h => absurd h (by omega)
  have hl0 : Hid ((List.replicate (H0 + 1) false).length = H0 + 1) := List.length_replicate
  go_loopw [9] (fun v wr => ∃ (k : Nat) (cs : List Bool), k ≤ N ∧ v = .int .i64 k ∧ Hid (BlkB wr T cs) ∧ Hid (cs.length = H0 + 1) ∧ Hid (∀ j p, j < k → (Mc.prs n)[j]? = some p → cs[Mc.sl M p.1 p.2]? = some true) ∧ Hid (Below w4.heap.size w4 wr)) (fun v _ => N - (intOf v).toNat)
  case atStart => exact ⟨0, _, Nat.zero_le _, rfl, hT0, hl0, hI0, hb5⟩
  case round =>
    clear hI0 hl0 hT0 hb5
    obtain ⟨k, cs, hk, rfl, hB, hcl, hI, hbr⟩ := hrel
    have sI := MT.next S5.out hbr.out
    by_cases hkN : k < N
    · have hkN' : (k : Int) < N := by omega
      obtain ⟨⟨s, t⟩, hp⟩ : ∃ p, (Mc.prs n)[k]? = some p := ⟨_, List.getElem?_eq_getElem (by have := HNN.out; omega)⟩
      obtain ⟨hst, htn⟩ := Mc.prs_lt hp
      simp only at hst htn
      have hsn : s < n := by omega
      have hsM : s < M.r.length := by rw [hlen.out]; exact hsn
      have htM : t < M.r.length := by rw [hlen.out]; exact htn
      have hPT4 : PrT M w4 G (Mc.prs n) := MK.get S5.out 0 rfl
      have lG : G < w4.heap.size := hPT4.lt
      obtain ⟨B1, k0, k1, k2, k3, hrd⟩ := hPT4.at_ hp
      obtain ⟨L, hL⟩ : ∃ L, Mc.sl M s t = L := ⟨_, rfl⟩
      have hLH : L ≤ H0 := by
        have h := Mc.hgtTo_ge (m := M) (n := n) (k := N) (j := k) hkN hp (by rw [HNN.out]; exact Nat.le_refl _)
        rw [HH0.out] at h
        simp only [hL] at h
        exact h
      rw [hL] at k2 k3
      have KC0 : ∀ x, Below w4.heap.size w4 x → x.cell? ⟨G, k * 4, none⟩ = some (.int .i64 s) := fun x h => (h.cell (p := ⟨G, k * 4, none⟩) lG).trans k0
      have KC1 : ∀ x, Below w4.heap.size w4 x → x.cell? ⟨G, k * 4 + 1, none⟩ = some (.int .i64 t) := fun x h => (h.cell (p := ⟨G, k * 4 + 1, none⟩) lG).trans k1
      have k2' := (hbr.out.cell (p := ⟨G, k * 4 + 2, none⟩) lG).trans k2
      have k3' := (hbr.out.cell (p := ⟨G, k * 4 + 3, none⟩) lG).trans k3
      clear k0 k1 k2 k3 lG hPT4
      obtain ⟨z, t0, t1, _⟩ := hB.out.at_ (k := L) (by rw [hcl.out]; omega)
      have hLd : decide ((0 : Int) < L) = decide (0 < L) := by simp
      have hLg : decide ((L : Int) > H0) = false := decide_eq_false (by omega)
      have hLg2 : decide ((H0 : Int) < L) = false := decide_eq_false (by omega)
      have hLb : (L : Int) < H0 + 1 := by omega
      have hB2 := Lib.hid (hB.out.set_ L true)
      have hcl2 : Hid ((cs.set L true).length = H0 + 1) := by show _ = _; rw [List.length_set]; exact hcl.out
      have hI2 : Hid (∀ j p, j < k + 1 → (Mc.prs n)[j]? = some p → (cs.set L true)[Mc.sl M p.1 p.2]? = some true) := fun j p hj hjp => by
        by_cases e : j = k
        · subst e
          rw [hp] at hjp
          injection hjp with hjp
          subst hjp
          simp only [hL]
          rw [List.getElem?_set_self (by rw [hcl.out]; omega)]
        · have h1 := hI.out j p (by omega) hjp
          by_cases e2 : L = Mc.sl M p.1 p.2
          · rw [← e2, List.getElem?_set_self (by rw [hcl.out]; omega)]
          · rw [List.getElem?_set_ne e2]; exact h1
      have hTw : w4.heap.size ≤ T := by omega
      have hbr2 : Hid (Below w4.heap.size w4 (wr.setCell ⟨T, L, none⟩ (.bool true))) := hbr.out.setCell (p := ⟨T, L, none⟩) hTw _
      have HP := Lib.hid hp
      have HRD := Lib.hid hrd
      clear hp hrd hB hcl hI
      by_cases hL2 : L < 2
      · have hL2' : decide ((L : Int) < 2) = true := decide_eq_true (by omega)
        have hL3 : (L : Int) < 2 := by omega
        clear sI HRD
        go_wp2_with fail
        go_roundw
        case rel => exact ⟨k + 1, _, by omega, by go_num, hB2, hcl2, hI2, hbr2⟩
        case measure => simp [intOf]; omega
      · have hL2' : decide ((L : Int) < 2) = false := decide_eq_false (by omega)
        have hL3 : ¬ ((L : Int) < 2) := by omega
        obtain ⟨c0, a', b', hc, haM, hbM, hsl, hsw, haf, hbf⟩ := Mc.sepw_step V.out hsM htM (L := L - 2) (by rw [hL]; omega)
        have sU := MT.next S5.out hbr2.out
        obtain ⟨Y, hY⟩ : ∃ Y, Mc.sepw M a' b' = Y := ⟨_, rfl⟩
        have hYL : Hid (Y.length = L - 1) := by show _ = _; rw [← hY, Mc.sepw_len, hsl]; omega
        rw [hsw, hY] at HRD
        have HRD4 := Lib.hid HRD.out
        clear sI HRD
        obtain ⟨U, hU⟩ : ∃ U, wr.setCell ⟨T, L, none⟩ (.bool true) = U := ⟨_, rfl⟩
        rw [hU] at sU hB2 hbr2
        go_upto_region 15 with fail
        try rw [hU]
        clear k2' k3' t0 t1 hU
        have lg : g < w4.heap.size := heap_lt (MK.get S5.out 1 rfl)
        have hbo : ∀ x : BW U, Below w4.heap.size w4 x.out := fun x => below_next hbr2.out x.ok
        obtain ⟨m0, m1, m2⟩ := BxM.cells (MK.get sU 1 rfl)
        have lgU : g < U.heap.size := heap_lt (MK.get sU 1 rfl)
        have f0 : ∀ x : BW U, x.out.cell? ⟨g, 0, none⟩ = some (.int .i64 i) := fun x => (x.ok.cell (p := ⟨g, 0, none⟩) lgU).trans m0
        have f1 : ∀ x : BW U, x.out.cell? ⟨g, 1, none⟩ = some (.int .i64 o) := fun x => (x.ok.cell (p := ⟨g, 1, none⟩) lgU).trans m1
        have f2 : ∀ x : BW U, x.out.cell? ⟨g, 2, none⟩ = some (.slice R n c1) := fun x => (x.ok.cell (p := ⟨g, 2, none⟩) lgU).trans m2
        have f3 : ∀ x : BW U, x.out.cell? ⟨G, k * 4, none⟩ = some (.int .i64 s) := fun x => KC0 _ (hbo x)
        have f4 : ∀ x : BW U, x.out.cell? ⟨G, k * 4 + 1, none⟩ = some (.int .i64 t) := fun x => KC1 _ (hbo x)
        have rU : RdR U R M.r := MK.get sU 2 rfl
        have wU : Rd U (some ⟨B1, 0, none⟩) [(c0 : Int)] := (HRD4.out.below hbr2.out).takeL 1
        have hw1 : Mc.Wd M [(c0 : Int)] := fun c hc => by simp at hc; subst hc; exact ⟨by omega, by assumption⟩
        have C1 := fun (x : BW U) => CA s a' R (some ⟨B1, 0, none⟩) c1 1 L [(c0 : Int)] x.out rfl (rU.below x.ok) (wU.below x.ok) (Or.inr ⟨by omega, by omega⟩) hw1 (by omega) haf
        have C2 := fun (x : BW U) => CA t b' R (some ⟨B1, 0, none⟩) c1 1 L [(c0 : Int)] x.out rfl (rU.below x.ok) (wU.below x.ok) (Or.inr ⟨by omega, by omega⟩) hw1 (by omega) hbf
        have hL4 : (1 : Int) ≤ L := by omega
        clear m0 m1 m2 lg lgU KC0 KC1 hbo rU wU hw1 haf hbf
        refine wp_region_quiet_below (by kernel_rfl) (by kernel_rfl) ?_
        repeat (go_big_quiet_step ((rename_i x; first
          | (with_reducible refine (C1 x).mono ?_; rintro e wy ⟨rfl, hy⟩; exact ⟨rfl, ⟨wy, below_next x.ok hy⟩, rfl⟩)
          | (with_reducible refine (C2 x).mono ?_; rintro e wy ⟨rfl, hy⟩; exact ⟨rfl, ⟨wy, below_next x.ok hy⟩, rfl⟩)
          | fail)))
        refine wpQuiet_nil ?_
        intro w20 hw20
        obtain ⟨⟨w6, hb6⟩, hw3⟩ := hw20
        dsimp only at hw3
        subst hw3
        have hbr6 := Lib.hid (below_next hbr2.out hb6)
        have hB6 := Lib.hid (hB2.out.below (B := U.heap.size) hb6 hB2.out.lt)
        have s6 := MT.next sU hb6
        clear f0 f1 f2 f3 f4 C1 C2 hb6 sU hB2 hbr2
        have ha0 : decide ((a' : Int) < 0) = false := decide_eq_false (by omega)
        have hb0 : decide ((b' : Int) < 0) = false := decide_eq_false (by omega)
        have ha1 : ¬ ((a' : Int) < 0) := by omega
        have hb1 : ¬ ((b' : Int) < 0) := by omega
        obtain ⟨m0, m1, m2⟩ := BxM.cells (MK.get s6 1 rfl)
        go_wp2_with fail
        clear m0 m1 m2
        refine (CS R c1 _ a' b' (L - 1) true (MK.get s6 2 rfl) (by rw [← hlen.out]; exact haM) (by rw [← hlen.out]; exact hbM) (by rw [hsl]; omega) (by simp; omega)).mono ?_
        rintro e w7 ⟨B3, rfl, hrd, hb7⟩
        rw [hY] at hrd
        have hbr7 := Lib.hid (below_next hbr6.out hb7)
        have hB7 := Lib.hid (hB6.out.below (B := w20.heap.size) hb7 hB6.out.lt)
        have hrd2 : Rd w7 (some ⟨B1, 1, none⟩) Y := (HRD4.out.below hbr7.out).dropL 1
        have CL := slist_yes B3 (some ⟨B1, 1, none⟩) (L - 1) (L - 1) Y 0 w7 hrd hrd2 hYL.out (by omega)
        clear s6 hb7 hB6 hbr6 hrd hrd2
        go_wp2_with fail
        refine CL.mono ?_
        rintro e w8 ⟨rfl, hb8⟩
        have hbr8 := Lib.hid (below_next hbr7.out hb8)
        have hB8 := Lib.hid (hB7.out.below (B := w7.heap.size) hb8 hB7.out.lt)
        clear CL hb8 hB7 hbr7
        go_wp2_with fail
        go_roundw
        case rel => exact ⟨k + 1, _, by omega, by go_num, hB8, hcl2, hI2, hbr8⟩
        case measure => simp [intOf]; omega
    · obtain rfl : k = N := by omega
      have hkk : ¬ ((k : Int) < k) := by omega
      have hALL : Hid (∀ L, 1 ≤ L → L ≤ H0 → cs[L]? = some true) := fun L h1 h2 => by
        obtain ⟨j, p, h3, h4⟩ := Mc.ladder_ex V.out hlen.out h1 (by rw [HNN.out, HH0.out]; exact h2)
        rw [← h4]
        exact hI.out j p (by rw [← HNN.out]; exact (List.getElem?_eq_some_iff.1 h3).1) h3
      clear sI hI CS CA S5
      go_wp2_with fail
      go_loopw [16] (fun v w2 => ∃ r : Nat, 1 ≤ r ∧ r ≤ H0 + 1 ∧ v = .int .i64 r ∧ Hid (BlkB w2 T cs) ∧ Hid (Below w4.heap.size w4 w2)) (fun v _ => H0 + 1 - (intOf v).toNat)
      case atStart => exact ⟨1, Nat.le_refl _, by omega, rfl, hB, hbr⟩
      case round =>
        clear hB hbr
        obtain ⟨r, hr1, hr2, rfl, hB, hbr⟩ := hrel
        by_cases hrH : r ≤ H0
        · have hrH' : decide ((r : Int) ≤ H0) = true := decide_eq_true (by omega)
          have hrI : (r : Int) ≤ H0 := by omega
          have hrT : (r : Int) < H0 + 1 := by omega
          obtain ⟨z, t0, _, hz⟩ := hB.out.at_ (k := r) (by rw [hcl.out]; omega)
          have hzt : z = true := by
            have h1 := hALL.out r hr1 hrH
            rw [hz.out] at h1
            exact Option.some.inj h1
          subst hzt
          clear hz
          go_wp2_with fail
          go_roundw
          case rel => exact ⟨r + 1, by omega, by omega, by go_num, hB, hbr⟩
          case measure => simp [intOf]; omega
        · have hrH' : decide ((r : Int) ≤ H0) = false := decide_eq_false (by omega)
          have hrI : ¬ ((r : Int) ≤ H0) := by omega
          have hbF := Lib.hid (S4.out.2.1)
          clear hB
          go_wp2_with fail
          refine (slives_walk _).mono ?_
          rintro e w9 ⟨rfl, hb9⟩
          have hbE := Lib.hid (below_next (below_next hbF.out hbr.out) hb9)
          clear hb9
          go_wp2_with fail
          go_ret
          exact ⟨rfl, hbE.out⟩
end Go.Proofs.Ytonnplhiaidjnaa
