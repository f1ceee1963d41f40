/-
  Contracts: how many symbols, Check of one list and of two, limited. No statement is proved here.
-/
import Derived.Test.YtjodhihcckcefaaU1
namespace Go.Proofs.Ytjodhihcckcefaa
open Go.RowKit

/-- All words are not too long. -/
def Wl (rows : List (List Int)) : Prop := ∀ x ∈ rows, x.length ≤ 1000000
set_option maxRecDepth 100000 in
theorem symbols_any (L : Option Addr) (c N : Nat) (rows : List (List Int)) (w : World) (h : RdS w L rows) (hN : rows.length = N) (hm : N ≤ 1000000) (hall : Wl rows) :
    Calls Try.prog 53 #[.slice L N c] w fun e w' => e = .returned (.int .i64 (M.total rows : Nat)) ∧ w' = w := by
  have HN := Lib.hid hN
  have HA := Lib.hid hall
  have HH := Lib.hid h
  clear hN hall h
  go_enter Try.func53, Try.ntmps53
  go_wp2
  go_loopw [3, 8] (fun u v wr => ∃ k T : Nat, k ≤ N ∧ v = .int .i64 k ∧ u = .int .i64 T ∧ T ≤ k * 1000000 ∧ Hid (M.total (rows.take k) = T) ∧ wr = w) (fun _ v _ => N - (intOf v).toNat)
  case atStart => exact ⟨0, 0, Nat.zero_le _, rfl, rfl, by omega, rfl, rfl⟩
  case round =>
    obtain ⟨k, T, hk, rfl, rfl, hT, ht, rfl⟩ := hrel
    by_cases hlt : k < N
    · have hlti : (k : Int) < N := by omega
      have hkl : k < rows.length := by rw [HN.out]; exact hlt
      obtain ⟨b, off, A, cc, m, rfl, _, hc, _, hml⟩ := HH.out.at_ hkl
      have hmb : m ≤ 1000000 := by rw [← hml.out]; exact HA.out _ (M.row_mem hkl)
      have hN2 : Hid (M.total (rows.take (k + 1)) = T + m) := by show _ = _; rw [M.total_snoc hkl, ht.out, hml.out]
      clear ht
      go_wp2
      go_roundw
      case rel => exact ⟨k + 1, T + m, by omega, by go_num, by go_num, by omega, hN2, trivial⟩
      case measure => simp [intOf]; omega
    · have hlti : ¬ (k : Int) < N := by omega
      have hT2 : Hid (M.total rows = T) := by
        have := ht.out
        rwa [List.take_of_length_le (by rw [HN.out]; omega)] at this
      clear ht
      go_wp2
      go_ret
      exact ⟨by rw [hT2.out]; rfl, rfl⟩
/-- The same from a valid list on. -/
theorem wl_of {l : List (List Int)} {n : Int} (h : M.cwE l n = 0) : Wl l := fun x hx => by
  have h1 : M.ferr n l = 0 := by
    unfold M.cwE at h
    split at h
    · cases h
    · split at h
      · cases h
      · split at h
        · cases h
        · exact h
  have := (M.check_zero_u (M.ferr_zero.1 h1 x hx)).2.2.1
  omega
theorem len_of {l : List (List Int)} {n : Int} (h : M.cwE l n = 0) : l.length ≤ 4096 := by
  unfold M.cwE at h
  split at h
  · cases h
  · omega
set_option maxRecDepth 100000 in
theorem tcheck_any (L : Option Addr) (c N : Nat) (rows : List (List Int)) (n : Int) (w : World) (h : RdS w L rows) (hN : rows.length = N) (hm : N ≤ 9223372036854775807) :
    Calls Try.prog 18 #[.slice L N c, .int .i64 n] w fun e w' => e = .returned (.int .i64 (M.chE rows n)) ∧ Below w.heap.size w w' := by
  classical
  obtain ⟨R, hR⟩ : ∃ R, M.chE rows n = R := ⟨_, rfl⟩
  rw [hR]
  have HR := Lib.hid hR
  have C1 := cwords_any L c N rows n w h hN hm
  have HN := Lib.hid hN
  have HH := Lib.hid h
  clear hR hN h
  by_cases h0 : M.cwE rows n = 0
  · have hw := wl_of h0
    have hl := len_of h0
    rw [HN.out] at hl
    rw [h0] at C1
    have HR1 : Hid (R = if ¬ M.asc rows then 1 else if 65536 < M.total rows then 3 else 0) := by
      show _ = _
      rw [← HR.out]
      unfold M.chE
      rw [if_neg (by omega)]
    clear HR
    have HC1 := Lib.hid C1
    clear C1
    go_enter Try.func18, Try.ntmps18
    go_wp2_with fail
    refine HC1.out.mono ?_
    rintro e w1 ⟨rfl, hb1⟩
    by_cases ha : M.asc rows
    · have CA := ascending_any L c N rows w1 (HH.out.below hb1) HN.out (by omega) hw true (by simp [ha])
      go_wp2_with fail
      refine CA.mono ?_
      rintro e w2 ⟨rfl, hb2⟩
      have hb12 := below_next hb1 hb2
      have CS := symbols_any L c N rows w2 (HH.out.below hb12) HN.out (by omega) hw
      obtain ⟨T, hT⟩ : ∃ T, M.total rows = T := ⟨_, rfl⟩
      rw [hT] at CS
      have HB := Lib.hid hb12
      have HT := Lib.hid hT
      clear hb1 hb2 hb12 CA hT
      by_cases hs : 65536 < T
      · have hsd : decide ((65536 : Int) < T) = true := decide_eq_true (by omega)
        have hsi : (65536 : Int) < T := by omega
        obtain rfl : R = 3 := by rw [HR1.out, if_neg (by simp [ha]), if_pos (by rw [HT.out]; exact hs)]
        go_wp2_with fail
        refine CS.mono ?_
        rintro e w3 ⟨rfl, rfl⟩
        go_wp2
        go_ret
        exact ⟨rfl, HB.out⟩
      · have hsd : decide ((65536 : Int) < T) = false := decide_eq_false (by omega)
        have hsi : ¬ (65536 : Int) < T := by omega
        obtain rfl : R = 0 := by rw [HR1.out, if_neg (by simp [ha]), if_neg (by rw [HT.out]; exact hs)]
        go_wp2_with fail
        refine CS.mono ?_
        rintro e w3 ⟨rfl, rfl⟩
        go_wp2
        go_ret
        exact ⟨rfl, HB.out⟩
    · have CA := ascending_any L c N rows w1 (HH.out.below hb1) HN.out (by omega) hw false (by simp [ha])
      obtain rfl : R = 1 := by rw [HR1.out, if_pos ha]
      go_wp2_with fail
      refine CA.mono ?_
      rintro e w2 ⟨rfl, hb2⟩
      have HB := Lib.hid (below_next hb1 hb2)
      clear hb1 hb2
      go_wp2
      go_ret
      exact ⟨rfl, HB.out⟩
  · obtain ⟨q, hq⟩ : ∃ q, M.cwE rows n = q := ⟨_, rfl⟩
    rw [hq] at C1 h0
    have hq0 : (q != 0) = true := by simpa using h0
    obtain rfl : R = q := by
      rw [← HR.out]
      unfold M.chE
      rw [if_pos (by rw [hq]; exact h0), hq]
    have HC1 := Lib.hid C1
    clear C1 HR hq h0
    go_enter Try.func18, Try.ntmps18
    go_wp2_with fail
    refine HC1.out.mono ?_
    rintro e w1 ⟨rfl, hb1⟩
    go_wp2
    go_ret
    exact ⟨rfl, hb1⟩
noncomputable def chE2 (a b : List (List Int)) (n : Int) : Int := if M.chE a n ≠ 0 then M.chE a n else M.chE b n
theorem tboth_any (L K : Option Addr) (c d N N2 : Nat) (rows rows2 : List (List Int)) (n : Int) (w : World) (h : RdS w L rows) (hN : rows.length = N) (hm : N ≤ 9223372036854775807) (h2 : RdS w K rows2) (hN2 : rows2.length = N2) (hm2 : N2 ≤ 9223372036854775807) :
    Calls Try.prog 65 #[.slice L N c, .slice K N2 d, .int .i64 n] w fun e w' => e = .returned (.int .i64 (chE2 rows rows2 n)) ∧ Below w.heap.size w w' := by
  obtain ⟨R, hR⟩ : ∃ R, chE2 rows rows2 n = R := ⟨_, rfl⟩
  rw [hR]
  have C1 := Lib.hid (tcheck_any L c N rows n w h hN hm)
  have C2 := Lib.hid (fun w' (hb : Below w.heap.size w w') => tcheck_any K d N2 rows2 n w' (h2.below hb) hN2 hm2)
  unfold chE2 at hR
  obtain ⟨p, hp⟩ : ∃ p, M.chE rows n = p := ⟨_, rfl⟩
  obtain ⟨q, hq⟩ : ∃ p, M.chE rows2 n = p := ⟨_, rfl⟩
  rw [hp] at C1 hR
  rw [hq] at C2 hR
  clear hp hq h h2 hN hN2
  by_cases h0 : p = 0
  · subst h0
    obtain rfl : q = R := by rw [← hR, if_neg (by decide)]
    clear hR
    go_enter Try.func65, Try.ntmps65
    go_wp2_with fail
    refine C1.out.mono ?_
    rintro e w1 ⟨rfl, hb1⟩
    go_wp2_with fail
    refine (C2.out _ hb1).mono ?_
    rintro e w2 ⟨rfl, hb2⟩
    have HB := Lib.hid (below_next hb1 hb2)
    clear hb1 hb2
    go_wp2
    go_ret
    exact ⟨rfl, HB.out⟩
  · have hq0 : (p != 0) = true := by simpa using h0
    obtain rfl : p = R := by rw [← hR, if_pos h0]
    clear hR h0
    go_enter Try.func65, Try.ntmps65
    go_wp2_with fail
    refine C1.out.mono ?_
    rintro e w1 ⟨rfl, hb1⟩
    go_wp2
    go_ret
    exact ⟨rfl, hb1⟩
/-- A list is handed back where it is valid. -/
theorem limited_any (L : Option Addr) (c N : Nat) (rows : List (List Int)) (n : Int) (w : World) (h : RdS w L rows) (hN : rows.length = N) (hm : N ≤ 9223372036854775807) (R : Int) (hR : (R = 0 ∧ M.Lv rows n) ∨ (R = 3 ∧ ¬ M.Lv rows n)) :
    Calls Try.prog 80 #[.slice L N c, .int .i64 n] w fun e w' => e = .returned (.tuple #[if R = 0 then .slice L N c else .slice none 0 0, .int .i64 R]) ∧ Below w.heap.size w w' := by
  have C1 := Lib.hid (tcheck_any L c N rows n w h hN hm)
  obtain ⟨p, hp⟩ : ∃ p, M.chE rows n = p := ⟨_, rfl⟩
  rw [hp] at C1
  have hz := M.chE_zero (l := rows) (n := n)
  rw [hp] at hz
  clear hp h hN
  rcases hR with ⟨rfl, hv⟩ | ⟨rfl, hv⟩
  · obtain rfl : p = 0 := hz.2 hv
    clear hz hv
    go_enter Try.func80, Try.ntmps80
    go_wp2_with fail
    refine C1.out.mono ?_
    rintro e w1 ⟨rfl, hb1⟩
    go_wp2
    go_ret2
    exact ⟨rfl, hb1⟩
  · have h0 : p ≠ 0 := fun e => hv (hz.1 e)
    have hq0 : (p != 0) = true := by simpa using h0
    clear hz hv h0
    go_enter Try.func80, Try.ntmps80
    go_wp2_with fail
    refine C1.out.mono ?_
    rintro e w1 ⟨rfl, hb1⟩
    go_wp2
    go_ret2
    exact ⟨rfl, hb1⟩
end Go.Proofs.Ytjodhihcckcefaa
