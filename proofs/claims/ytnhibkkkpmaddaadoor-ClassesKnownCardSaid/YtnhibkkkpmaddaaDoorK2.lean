/-
  The walk of the law ClassesOf.
-/
import Derived.Test.YtnhibkkkpmaddaaDoorK1
namespace Go.Proofs.YtnhibkkkpmaddaaDoor
open Go.RowKit

namespace M
theorem blk_at {p : List Int} {b j : Nat} (h : j < (blk p b).length) : ∃ u : Nat, gz (blk p b) j = u ∧ u < p.length ∧ gz p u = b := by
  obtain ⟨i, h1, h2, h3⟩ := mem_blk.1 (gz_mem h)
  exact ⟨i, h2, h1, h3⟩
theorem iota_lt (n : Nat) : (iota n).Pairwise (· < ·) := by
  unfold iota
  rw [List.pairwise_map]
  exact List.pairwise_lt_range.imp (fun h => by simpa using h)
theorem blk_lt {p : List Int} {b j : Nat} (h : j + 1 < (blk p b).length) : gz (blk p b) j < gz (blk p b) (j + 1) := by
  have hp : (blk p b).Pairwise (· < ·) := (iota_lt _).filter _
  have := List.pairwise_iff_getElem.1 hp j (j + 1) (by omega) h (by omega)
  simpa [gz, List.getElem?_eq_getElem h, List.getElem?_eq_getElem (show j < (blk p b).length by omega)] using this
theorem lens_le' {p : List Int} (h : Vd p) (m : Nat) : lens p m ≤ p.length := by
  rw [lens_eq (fun i hi => (vd_gz h hi).1)]
  have := List.length_filter_le (fun i => decide (gz p i.toNat < (m : Nat))) (iota p.length)
  rw [iota_len] at this
  exact this
theorem ofL_i64 {l : List Int} (h : l.length ≤ 1000000) : I64 (ofL l) := fun z hz => by
  have := (Vd.of_ l).bound hz
  have := cnt_le (ofL l)
  rw [ofL_len] at this
  omega
end M
theorem count_is (A : Option Addr) (n c m : Nat) (p : List Int) (w : World) (h : Rd w A p) (hn : p.length = n) (hv : M.Vd p) (hl : n ≤ 256) (hm : M.cnt p = m) :
    Calls Tryd.prog 22 #[.slice A n c] w fun e w' => e = .returned (.int .i64 m) ∧ Below w.heap.size w w' := by
  subst hn hm
  exact rcount_any A c p w h hv (by omega)

set_option maxRecDepth 100000 in
set_option maxHeartbeats 4000000 in
theorem classesOf_in (A : Option Addr) (c : Nat) (l : List Int) (w : World) (he : Env w) (hl : Rd w A l) (h1 : l.length ≤ 256) (hv : M.I64 l) :
    Calls Tryd.prog 4 #[.slice A l.length c] w fun e w' => e = .returned (.bool true) ∧ Below w.heap.size w w' := by
  obtain ⟨P, hP⟩ : ∃ P, Hid (M.ofL l = P) := ⟨_, rfl⟩
  have HV : Hid (M.Vd P) := by rw [Hid, ← hP.out]; exact M.Vd.of_ l
  have HL : Hid (P.length = l.length) := by rw [Hid, ← hP.out]; exact M.ofL_len l
  obtain ⟨m, hm⟩ : ∃ m, Hid (M.cnt P = m) := ⟨_, rfl⟩
  have hm2 : m ≤ 256 := by have := M.cnt_le P; have := hm.out; have := HL.out; omega
  have h0 : Hid (M.pck P = 0) := M.pck_ok (by have := HL.out; omega) HV.out
  obtain ⟨n, hn⟩ : ∃ n, Hid (l.length = n) := ⟨_, rfl⟩
  have HLn : Hid (P.length = n) := HL.out.trans hn.out
  have C1 := of_lit A n c l P w hl hn.out hv (by have := hn.out; omega) hP.out
  rw [hn.out] at h1 ⊢
  rw [HLn.out] at C1
  have s0 := (St.start w).put hl
  clear hv hl
  go_enter Tryd.func4, Tryd.ntmps4
  go_wp2_with fail
  refine C1.mono ?_
  rintro e w1 ⟨B, rfl, hr1, hb1⟩
  have s1 := (s0.next hb1).put hr1
  clear s0 hb1 hr1 C1
  go_wp2_with fail
  refine (blocks_lit B n n m P _ (s1.rd 0 rfl) HLn.out h0.out hm.out).mono ?_
  rintro e w2 ⟨L, rfl, hX2, hb2⟩
  have s2 := s1.next hb2
  clear s1 hb2
  go_wp2_with fail
  refine (count_lit B n n m P _ (s2.rd 0 rfl) HLn.out h0.out hm.out).mono ?_
  rintro e w3 ⟨rfl, hb3⟩
  have s3 := s2.next hb3
  have hX3 := hX2.below hb3
  clear s2 hb3 hX2
  have C4 := rof_at A c n l w3 (s3.rd 1 rfl) hn.out (by omega)
  rw [hP.out] at C4
  go_wp2_with fail
  refine C4.mono ?_
  rintro e w4 ⟨C, c4, rfl, hr4, _, hb4⟩
  have s4 := (s3.next hb4).put hr4
  have hX4 := hX3.below hb4
  rw [HLn.out]
  clear s3 hb4 hX3 hr4 C4
  go_wp2_with fail
  refine (list_yes B C n c4 P 0 _ (s4.rd 1 rfl) (s4.rd 0 rfl) HLn.out (by omega)).mono ?_
  rintro e w5 ⟨rfl, hb5⟩
  have s5 := s4.next hb5
  have hX5 := hX4.below hb5
  clear s4 hb5 hX4
  go_wp2_with fail
  refine (count_is B n n m P _ (s5.rd 1 rfl) HLn.out HV.out h1 hm.out).mono ?_
  rintro e w6 ⟨rfl, hb6⟩
  have s6 := s5.next hb6
  have hX6 := hX5.below hb6
  have hrP := s6.rd 1 rfl
  clear s5 hb6 hX5
  go_wp2
  go_loopw [9, 10] (fun u v wr => ∃ i y : Nat, i ≤ m ∧ v = .int .i64 i ∧ u = .int .i64 y ∧ y ≤ n ∧ Hid (M.lens P i = y) ∧ Below w6.heap.size w6 wr) (fun _ v _ => m - (intOf v).toNat)
  case atStart => exact ⟨0, 0, Nat.zero_le _, rfl, rfl, Nat.zero_le _, rfl, Below.refl _ _⟩
  case round =>
    obtain ⟨i, y, hi, rfl, rfl, hy, hly, hbr⟩ := hrel
    by_cases him : i < m
    · obtain ⟨G, rfl, _⟩ := hX6 (by omega)
      obtain ⟨R, hG, hcR, hrR⟩ := rdx_at (hX6.below hbr) him rfl
      obtain ⟨q, hq⟩ : ∃ q, Hid ((M.blk P i).length = q) := ⟨_, rfl⟩
      have hq0 : 0 < q := by
        have := List.length_pos_iff.2 (M.blk_ne HV.out (b := i) (by have := hm.out; omega))
        have := hq.out
        omega
      rw [hq.out] at hcR
      obtain ⟨b1, o1, rfl⟩ := hrR.opn (by rw [hq.out]; exact hq0)
      have hqe : ((q : Int) == 0) = false := by simp; omega
      have hlen2 : y + q ≤ n := by
        have := M.lens_le' HV.out (i + 1)
        rw [M.lens, hly.out, hq.out, HLn.out] at this
        exact this
      have hnext : Hid (M.lens P (i + 1) = y + q) := by rw [Hid, M.lens, hly.out, hq.out]
      clear hly
      go_wp2
      go_quiet (fail)
      go_wp2
      go_loopw [9, 11] (fun u v wq => ∃ k : Nat, k ≤ q ∧ v = .int .i64 k ∧ u = .int .i64 (y + k : Nat) ∧ Below w6.heap.size w6 wq) (fun _ v _ => q - (intOf v).toNat)
      case atStart => exact ⟨0, Nat.zero_le _, rfl, rfl, below_drewN' hbr _⟩
      case round =>
        clear hbr hcR hrR hG
        obtain ⟨k, hk, rfl, rfl, hbq⟩ := hrel
        obtain ⟨R', hG, hcR, hrR⟩ := rdx_at (hX6.below hbq) him rfl
        rw [hq.out] at hcR
        by_cases hkq : k < q
        · rcases Nat.eq_zero_or_pos k with hk0 | hk0
          · subst hk0
            obtain ⟨b1', o1', rfl⟩ := hrR.opn (by rw [hq.out]; exact hq0)
            obtain ⟨u, hu, hup, hui⟩ := M.blk_at (p := P) (b := i) (j := 0) (by rw [hq.out]; exact hkq)
            obtain ⟨z, hb1, hcz, hz⟩ := hrR.cl (k := 0) (by rw [hq.out]; exact hkq)
            have hzu := hz.out.symm.trans hu
            subst hzu
            have hu' := hu
            have hrB := hrP.below hbq
            obtain ⟨b2, o2, rfl⟩ := hrB.opn (by omega)
            obtain ⟨z2, hb2, hcz2, hz2⟩ := hrB.cl hup
            have hz2i := hz2.out.symm.trans hui
            subst hz2i
            have hun : (u : Int) < n := by have := HLn.out; omega
            have g1 : decide ((u : Int) < 0) = false := decide_eq_false (by omega)
            have g2 : decide (n ≤ u) = false := decide_eq_false (by omega)
            clear hu hup hui hz hz2 hrB
            rw [Nat.add_zero] at hcz
            go_wp2
            go_quiet (fail)
            go_wp2
            go_roundw
            case rel => exact ⟨0 + 1, by omega, by first | rfl | go_num, by first | rfl | go_num, below_drewN' hbq _⟩
            case measure => simp [intOf] <;> omega
          · obtain ⟨k', rfl⟩ : ∃ k', k = k' + 1 := ⟨k - 1, by omega⟩
            have hlt := M.blk_lt (p := P) (b := i) (j := k') (by rw [hq.out]; exact hkq)
            obtain ⟨b1', o1', rfl⟩ := hrR.opn (by rw [hq.out]; exact hq0)
            obtain ⟨u, hu, hup, hui⟩ := M.blk_at (p := P) (b := i) (j := k' + 1) (by rw [hq.out]; exact hkq)
            obtain ⟨z, hb1, hcz, hz⟩ := hrR.cl (k := k' + 1) (by rw [hq.out]; exact hkq)
            have hzu := hz.out.symm.trans hu
            subst hzu
            have hu' := hu
            have hrB := hrP.below hbq
            obtain ⟨b2, o2, rfl⟩ := hrB.opn (by omega)
            obtain ⟨z2, hb2, hcz2, hz2⟩ := hrB.cl hup
            have hz2i := hz2.out.symm.trans hui
            subst hz2i
            have hun : (u : Int) < n := by have := HLn.out; omega
            have g1 : decide ((u : Int) < 0) = false := decide_eq_false (by omega)
            have g2 : decide (n ≤ u) = false := decide_eq_false (by omega)
            clear hu hup hui hz hz2 hrB
            obtain ⟨z3, _, hcz3, hz3⟩ := hrR.cl (k := k') (by rw [hq.out]; omega)
            have hlt2 : z3 < (u : Int) := by rw [hz3.out, hu'] at hlt; exact hlt
            have g3 : decide ((u : Int) ≤ z3) = false := decide_eq_false (by omega)
            have g4 : decide ((0 : Int) < (k' : Int) + 1) = true := decide_eq_true (by omega)
            clear hz3 hlt hu'
            go_wp2
            go_quiet (fail)
            go_wp2
            go_roundw
            case rel => exact ⟨k' + 1 + 1, by omega, by first | rfl | go_num, by first | rfl | go_num, below_drewN' hbq _⟩
            case measure => simp [intOf] <;> omega
        · have : k = q := by omega
          subst this
          go_wp2
          go_roundw
          case rel => exact ⟨i + 1, y + k, by omega, by go_num, rfl, by omega, hnext, hbq⟩
          case measure => simp [intOf] <;> omega
    · have : i = m := by omega
      subst this
      have hyn : y = n := by
        have := M.lens_all HV.out
        rw [hm.out, HLn.out, hly.out] at this
        exact this
      subst hyn
      go_wp2_with fail
      refine (lives_any _ ((s6.next hbr).env he)).mono ?_
      rintro e w7 ⟨rfl, hb7⟩
      have s7 := (s6.next hbr).next hb7
      go_wp2
      go_ret
      exact ⟨rfl, s7.1⟩

theorem of_long (A : Option Addr) (c : Nat) (zs : List Int) (w : World) (h : Rd w A zs) (hv : M.I64 zs) (hl : 256 < zs.length) :
    Calls Tryd.prog 20 #[.slice A zs.length c] w fun e w' => ∃ B, e = .returned (.tuple #[.slice B 0 0, .int .i64 3]) ∧ Below w.heap.size w w' := by
  refine (of_any A c zs w h hv).mono ?_
  rintro e w' ⟨B, rfl, _, hb⟩
  have e1 : ofV zs = [] := by simp [ofV, hl]
  have e2 : ofE zs = 3 := by simp [ofE, hl]
  rw [e1, e2]
  exact ⟨B, rfl, hb⟩

set_option maxRecDepth 100000 in
theorem classesOf_walk (A : Option Addr) (c : Nat) (l : List Int) (w : World) (he : Env w) (hl : Rd w A l) (hv : M.I64 l) :
    Calls Tryd.prog 4 #[.slice A l.length c] w fun e w' => e = .returned (.bool true) ∧ Below w.heap.size w w' := by
  by_cases h1 : 256 < l.length
  · have C1 := of_long A c l w hl hv h1
    by_cases h2 : 300 < l.length
    · go_enter Tryd.func4, Tryd.ntmps4
      go_wp2_with fail
      refine C1.mono ?_
      rintro e w1 ⟨B, rfl, hb1⟩
      go_wp2_with fail
      refine (list_nil B 3 _).mono ?_
      rintro e w2 ⟨rfl, hb2⟩
      have hb := below_next hb1 hb2
      go_wp2_with fail
      refine (lives_any _ (he.below hb)).mono ?_
      rintro e w3 ⟨rfl, hb3⟩
      go_wp2
      go_ret
      exact ⟨rfl, below_next hb hb3⟩
    · go_enter Tryd.func4, Tryd.ntmps4
      go_wp2_with fail
      refine C1.mono ?_
      rintro e w1 ⟨B, rfl, hb1⟩
      go_wp2_with fail
      refine (list_nil B 3 _).mono ?_
      rintro e w2 ⟨rfl, hb2⟩
      have hb := below_next hb1 hb2
      go_wp2_with fail
      refine (lives_any _ (he.below hb)).mono ?_
      rintro e w3 ⟨rfl, hb3⟩
      go_wp2
      go_ret
      exact ⟨rfl, below_next hb hb3⟩
  · exact classesOf_in A c l w he hl (by omega) hv
end Go.Proofs.YtnhibkkkpmaddaaDoor
