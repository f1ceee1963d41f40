/-
  Contracts: the reference's Text.
-/
import Derived.Test.YtnhibkkkpmaddaaDoorC14
import Derived.Test.YtnhibkkkpmaddaaDoorNum
namespace Go.Proofs.YtnhibkkkpmaddaaDoor
open Go.RowKit

namespace M
open Go.Lib
def segU (p : List Int) (b k : Nat) : List UInt8 := (blkN p b k).flatMap fun i => 32 :: itoa i
def pre2 (b : Nat) : List UInt8 := if b = 0 then [] else [32, 124]
def txA (p : List Int) (b : Nat) : List UInt8 := (List.range b).flatMap fun b => pre2 b ++ segU p b p.length
def txC (p : List Int) (b k : Nat) : List UInt8 := txA p b ++ (pre2 b ++ segU p b k)
theorem txA_zero (p : List Int) : txA p 0 = [] := rfl
theorem txA_succ (p : List Int) (b : Nat) : txA p (b + 1) = txC p b p.length := by simp [txA, txC, List.range_succ]
theorem txC_zero (p : List Int) (b : Nat) : txC p b 0 = txA p b ++ pre2 b := by simp [txC, segU, blkN_zero]
theorem segU_hit {p : List Int} {b k : Nat} (h : gz p k = b) : segU p b (k + 1) = segU p b k ++ (32 :: itoa k) := by simp [segU, blkN_hit h]
theorem segU_miss {p : List Int} {b k : Nat} (h : ¬ gz p k = b) : segU p b (k + 1) = segU p b k := by simp [segU, blkN_miss h]
theorem txC_hit {p : List Int} {b k : Nat} (h : gz p k = b) : txC p b (k + 1) = txC p b k ++ (32 :: itoa k) := by simp [txC, segU_hit h]
theorem txC_miss {p : List Int} {b k : Nat} (h : ¬ gz p k = b) : txC p b (k + 1) = txC p b k := by simp [txC, segU_miss h]
theorem itoa_small {k : Nat} (h : k ≤ 1000000) : (itoa k).length ≤ 21 := itoa_len (by omega) (by omega)
theorem segU_len (p : List Int) (b : Nat) : ∀ k, k ≤ 1000000 → (segU p b k).length ≤ k * 22
  | 0, _ => by simp [segU, blkN_zero]
  | k + 1, h => by
    have ih := segU_len p b k (by omega)
    by_cases e : gz p k = b
    · rw [segU_hit e, List.length_append, List.length_cons]
      have := itoa_small (k := k) (by omega)
      omega
    · rw [segU_miss e]; omega
theorem pre2_len (b : Nat) : (pre2 b).length ≤ 2 := by unfold pre2; split <;> simp
theorem txA_len {p : List Int} (h : p.length ≤ 256) : ∀ b, (txA p b).length ≤ b * 6000
  | 0 => by simp [txA_zero]
  | b + 1 => by
    have ih := txA_len h b
    have h1 := segU_len p b p.length (by omega)
    have h2 := pre2_len b
    rw [txA_succ, txC, List.length_append, List.length_append]
    omega
theorem txC_len {p : List Int} (h : p.length ≤ 256) (b k : Nat) (hk : k ≤ 256) : (txC p b k).length ≤ b * 6000 + 6000 := by
  have h1 := segU_len p b k (by omega)
  have h2 := pre2_len b
  have h3 := txA_len h b
  rw [txC, List.length_append, List.length_append]
  omega
theorem flat_join (is : List Int) (h : is ≠ []) : (is.flatMap fun i => 32 :: itoa i) = 32 :: join (is.map itoa) [32] := by
  cases is with
  | nil => exact absurd rfl h
  | cons x r =>
    rw [List.map_cons, join_cons]
    simp [joinTail, List.flatMap]
    rfl
theorem txA_text {p : List Int} (h : Vd p) : ∀ m, m + 1 ≤ cnt p → txA p (m + 1) = 32 :: join ((List.range (m + 1)).map (rowT p)) bar
  | 0, hm => by
    rw [txA_succ, txC, txA_zero]
    have := flat_join (blk p 0) (blk_ne h (by omega))
    have e : segU p 0 p.length = 32 :: rowT p 0 := this
    rw [e]
    simp [pre2, join_one]
  | m + 1, hm => by
    have ih := txA_text h m (by omega)
    rw [txA_succ, txC, ih]
    have := flat_join (blk p (m + 1)) (blk_ne h (by omega))
    have e : segU p (m + 1) p.length = 32 :: rowT p (m + 1) := this
    rw [e, show List.range (m + 1 + 1) = List.range (m + 1) ++ [m + 1] from List.range_succ, List.map_append, List.map_singleton, join_snoc _ _ _ (by simp)]
    simp [pre2, bar]
theorem txA_done {p : List Int} (h : Vd p) (h0 : p ≠ []) : txA p (cnt p) = 32 :: textP p := by
  have hc := cnt_pos h0
  obtain ⟨m, hm⟩ : ∃ m, cnt p = m + 1 := ⟨cnt p - 1, by omega⟩
  rw [hm, txA_text h m (by omega), textP, if_neg h0, hm]
end M
/-- A list of bytes as a string. -/
def SB (l : List UInt8) : ByteArray := ⟨l.toArray⟩
theorem SB_app (a b : List UInt8) : SB a ++ SB b = SB (a ++ b) := M.bytes_eq (by simp [SB])
theorem SB_size (a : List UInt8) : (SB a).size = a.length := by simp [SB, ByteArray.size]
theorem SB_cons (c : UInt8) (l : List UInt8) : (⟨#[c]⟩ : ByteArray) ++ SB l = SB (c :: l) := M.bytes_eq (by simp [SB])
theorem SB_tail (c : UInt8) (l : List UInt8) : (SB (c :: l)).extract 1 (SB (c :: l)).size = SB l := by
  apply M.bytes_eq
  rw [SB_size]
  simp [SB]
theorem rcount_at (A : Option Addr) (c : Nat) (zs : List Int) (m : Nat) (w : World) (h : Rd w A zs) (hv : M.Vd zs) (hm : zs.length ≤ 1000) (e : M.cnt zs = m) :
    Calls Tryd.prog 22 #[.slice A zs.length c] w fun e w' => e = .returned (.int .i64 m) ∧ Below w.heap.size w w' := by
  subst e
  exact rcount_any A c zs w h hv hm

set_option maxRecDepth 100000 in
set_option maxHeartbeats 1000000 in
theorem rtext_any (A : Option Addr) (c : Nat) (p : List Int) (w : World) (h : Rd w A p) (hv : M.Vd p) (hl : p.length ≤ 256) :
    Calls Tryd.prog 32 #[.slice A p.length c] w fun e w' => e = .returned (.string ⟨(M.textP p).toArray⟩) ∧ Below w.heap.size w w' := by
  by_cases h0 : p = []
  · subst h0
    have e : M.textP [] = [45] := rfl
    rw [e]
    go_enter Tryd.func32, Tryd.ntmps32
    go_wp2
    go_ret
    exact ⟨rfl, Below.refl _ _⟩
  · have hp : 0 < p.length := List.length_pos_iff.2 h0
    have hne : ((p.length : Int) == 0) = false := by simp; omega
    have HD := Lib.hid (M.txA_done hv h0)
    have HV := Lib.hid hv
    obtain ⟨m, hm⟩ : ∃ m, Hid (M.cnt p = m) := ⟨_, rfl⟩
    have hm2 : m ≤ 256 := by have := M.cnt_le p; have := hm.out; omega
    rw [hm.out] at HD
    clear h0 hv
    go_enter Tryd.func32, Tryd.ntmps32
    go_wp2
    go_loopw [3, 4] (fun t i wr => ∃ b : Nat, b ≤ m ∧ i = .int .i64 b ∧ t = .string (SB (M.txA p b)) ∧ Below w.heap.size w wr) (fun _ i _ => m - (intOf i).toNat)
    case atStart => exact ⟨0, Nat.zero_le _, rfl, rfl, Below.refl _ _⟩
    case round =>
      obtain ⟨b, hb, rfl, rfl, hbr⟩ := hrel
      have C1 := rcount_at A c p m _ (h.below hbr) HV.out (by omega) hm.out
      by_cases hlt : b < m
      · have hsz := M.txA_len hl b
        have hss := SB_size (M.txA p b)
        rcases Nat.eq_zero_or_pos b with hb0 | hb0
        · subst hb0
          have HS : Hid (SB (M.txC p 0 0) = SB (M.txA p 0)) := rfl
          go_wp2_with fail
          refine C1.mono ?_
          rintro e w2 ⟨rfl, hb2⟩
          clear C1
          go_wp2
          go_loopw [3, 5] (fun t i wq => ∃ k : Nat, k ≤ p.length ∧ i = .int .i64 k ∧ t = .string (SB (M.txC p 0 k)) ∧ Below w.heap.size w wq) (fun _ i _ => p.length - (intOf i).toNat)
          case atStart => exact ⟨0, Nat.zero_le _, rfl, by first | rw [HS.out] | rfl, below_next hbr hb2⟩
          case round =>
            clear hb2
            obtain ⟨k, hk, rfl, rfl, hbq⟩ := hrel
            by_cases hkl : k < p.length
            · obtain ⟨b1, off, rfl⟩ := h.opn (by omega)
              obtain ⟨z, hbl, hc, hz⟩ := (h.below hbq).cl hkl
              have hsz1 := M.txC_len hl 0 k (by omega)
              have hss1 := SB_size (M.txC p 0 k)
              by_cases he : z = (0 : Nat)
              · subst he
                have hn := M.numB_size (z := (k : Int)) (by omega) (by omega)
                have HT := Lib.hid (M.txC_hit hz.out)
                have hsp : ((⟨#[32]⟩ : ByteArray) ++ M.numB k).size ≤ 22 := by rw [ByteArray.size_append]; exact Nat.add_le_add (Nat.le_refl 1) hn
                have HC := Lib.hid (SB_cons 32 (Lib.itoa k))
                go_wp2_with fail
                refine (number_any k _ (by omega) (by omega)).mono ?_
                rintro e w3 ⟨rfl, rfl⟩
                go_wp2
                go_roundw
                case rel => exact ⟨k + 1, by omega, by go_num, by rw [HT.out, ← SB_app, ← HC.out]; rfl, hbq⟩
                case measure => simp [intOf] <;> omega
              · have hne2 : (z == ((0 : Nat) : Int)) = false := by simpa using he
                have HT := Lib.hid (M.txC_miss (p := p) (b := 0) (k := k) (by rw [hz.out]; exact he))
                go_wp2
                go_roundw
                case rel => exact ⟨k + 1, by omega, by go_num, by rw [HT.out], hbq⟩
                case measure => simp [intOf] <;> omega
            · have : k = p.length := by omega
              subst this
              have HT := Lib.hid (M.txA_succ p 0)
              go_wp2
              go_roundw
              case rel => exact ⟨0 + 1, by omega, by go_num, by rw [HT.out], hbq⟩
              case measure => simp [intOf] <;> omega
        · have HS : Hid (SB (M.txC p b 0) = SB (M.txA p b) ++ (⟨#[32, 124]⟩ : ByteArray)) := by
            have e : M.pre2 b = [32, 124] := by unfold M.pre2; rw [if_neg (by omega)]
            rw [Hid, M.txC_zero, e, ← SB_app]
            rfl
          have hbi : (0 : Int) < b := by omega
          have h2s : (⟨#[32, 124]⟩ : ByteArray).size = 2 := rfl
          go_wp2_with fail
          refine C1.mono ?_
          rintro e w2 ⟨rfl, hb2⟩
          clear C1
          go_wp2
          go_loopw [3, 5] (fun t i wq => ∃ k : Nat, k ≤ p.length ∧ i = .int .i64 k ∧ t = .string (SB (M.txC p b k)) ∧ Below w.heap.size w wq) (fun _ i _ => p.length - (intOf i).toNat)
          case atStart => exact ⟨0, Nat.zero_le _, rfl, by first | rw [HS.out] | rfl, below_next hbr hb2⟩
          case round =>
            clear hb2
            obtain ⟨k, hk, rfl, rfl, hbq⟩ := hrel
            by_cases hkl : k < p.length
            · obtain ⟨b1, off, rfl⟩ := h.opn (by omega)
              obtain ⟨z, hbl, hc, hz⟩ := (h.below hbq).cl hkl
              have hsz1 := M.txC_len hl b k (by omega)
              have hss1 := SB_size (M.txC p b k)
              by_cases he : z = b
              · subst he
                have hn := M.numB_size (z := (k : Int)) (by omega) (by omega)
                have HT := Lib.hid (M.txC_hit hz.out)
                have hsp : ((⟨#[32]⟩ : ByteArray) ++ M.numB k).size ≤ 22 := by rw [ByteArray.size_append]; exact Nat.add_le_add (Nat.le_refl 1) hn
                have HC := Lib.hid (SB_cons 32 (Lib.itoa k))
                go_wp2_with fail
                refine (number_any k _ (by omega) (by omega)).mono ?_
                rintro e w3 ⟨rfl, rfl⟩
                go_wp2
                go_roundw
                case rel => exact ⟨k + 1, by omega, by go_num, by rw [HT.out, ← SB_app, ← HC.out]; rfl, hbq⟩
                case measure => simp [intOf] <;> omega
              · have hne2 : (z == (b : Int)) = false := by simpa using he
                have HT := Lib.hid (M.txC_miss (p := p) (b := b) (k := k) (by rw [hz.out]; exact he))
                go_wp2
                go_roundw
                case rel => exact ⟨k + 1, by omega, by go_num, by rw [HT.out], hbq⟩
                case measure => simp [intOf] <;> omega
            · have : k = p.length := by omega
              subst this
              have HT := Lib.hid (M.txA_succ p b)
              go_wp2
              go_roundw
              case rel => exact ⟨b + 1, by omega, by go_num, by rw [HT.out], hbq⟩
              case measure => simp [intOf] <;> omega
      · have : b = m := by omega
        subst this
        rw [HD.out]
        have hsz2 : (SB (32 :: M.textP p)).size = (M.textP p).length + 1 := by rw [SB_size]; rfl
        have HT := Lib.hid (SB_tail 32 (M.textP p))
        go_wp2_with fail
        refine C1.mono ?_
        rintro e w2 ⟨rfl, hb2⟩
        go_wp2
        go_ret
        refine ⟨ret_str ?_, below_next hbr hb2⟩
        have := HT.out
        rw [hsz2] at this
        exact this
end Go.Proofs.YtnhibkkkpmaddaaDoor
