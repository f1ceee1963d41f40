/-
  Contracts: how keys are compared. No statement is proved here.
-/
import Derived.Test.YtjodhihcckcefaaU2
import Derived.Test.YtjodhihcckcefaaTSh
import Derived.Sort.Walk0
import Derived.Laws.Cover1
namespace Go.Proofs.Ytjodhihcckcefaa
open Go.RowKit

/-! ### Strings as words -/
theorem M.lex_bytes : ∀ {x y : List UInt8}, x.length = y.length → Op.bytesLess x y = decide (M.lex (M.uW x) (M.uW y) < 0)
  | [], [], _ => rfl
  | [], _ :: _, h => by simp at h
  | _ :: _, [], h => by simp at h
  | a :: x, b :: y, h => by
    have ih := M.lex_bytes (x := x) (y := y) (by simpa using h)
    show (decide (a < b) || (a == b && Op.bytesLess x y)) = decide ((if ((a.toNat : Int)) < (b.toNat : Int) then -1 else if ((b.toNat : Int)) < (a.toNat : Int) then 1 else M.lex (M.uW x) (M.uW y)) < 0)
    rcases Nat.lt_trichotomy a.toNat b.toNat with h1 | h1 | h1
    · have h2 : a < b := UInt8.lt_iff_toNat_lt.2 h1
      rw [if_pos (by omega), decide_eq_true h2]
      rfl
    · have h2 : a = b := UInt8.toNat_inj.1 h1
      subst h2
      have h3 : ¬ a < a := fun h => by have := UInt8.lt_iff_toNat_lt.1 h; omega
      rw [if_neg (by omega), if_neg (by omega), decide_eq_false h3, ih]
      simp
    · have h2 : ¬ a < b := fun h => by have := UInt8.lt_iff_toNat_lt.1 h; omega
      have h3 : (a == b) = false := by rw [beq_eq_false_iff_ne]; intro e; subst e; omega
      rw [if_neg (by omega), if_pos (by omega), decide_eq_false h2, h3]
      rfl
theorem M.uW_inj {x y : List UInt8} (h : M.uW x = M.uW y) : x = y := by rw [← M.kU_uW x, ← M.kU_uW y, h]
/-- How two keys compare. -/
def kcmp (x y : List UInt8) : Int := M.cmp (M.uW x) (M.uW y)
def kone (p q : Bool) : Int := if p then -1 else if q then 0 else 1
def klen (x y : Int) : Int := if x < y then -1 else if y < x then 1 else 0
theorem kcmp_eq (x y : List UInt8) : kcmp x y = if klen x.length y.length ≠ 0 then klen x.length y.length else kone (Op.bytesLess x y) (x == y) := by
  unfold kcmp M.cmp
  rw [M.uW_len, M.uW_len]
  by_cases h1 : x.length < y.length
  · have e : klen x.length y.length = -1 := by unfold klen; rw [if_pos (by omega)]
    rw [if_pos h1, e]; rfl
  · by_cases h2 : y.length < x.length
    · have e : klen x.length y.length = 1 := by unfold klen; rw [if_neg (by omega), if_pos (by omega)]
      rw [if_neg h1, if_pos h2, e]; rfl
    · have h3 : x.length = y.length := by omega
      have e : klen x.length y.length = 0 := by unfold klen; rw [if_neg (by omega), if_neg (by omega)]
      rw [if_neg h1, if_neg h2, e, if_neg (by simp), M.lex_bytes h3]
      unfold kone
      rcases M.lex_range (M.uW x) (M.uW y) with h | h | h
      · rw [h]; rfl
      · have e := M.uW_inj ((M.lex_zero_iff (by rw [M.uW_len, M.uW_len]; exact h3)).1 h)
        subst e
        rw [h]
        simp
      · have e : (x == y) = false := by
          rw [beq_eq_false_iff_ne]
          intro e
          subst e
          rw [(M.lex_zero_iff rfl).2 rfl] at h
          cases h
        rw [h, e]
        rfl
theorem tnan_any (x : Int) (w : World) : Calls Try.prog 97 #[.int .i64 x] w fun e w' => e = .returned (.bool false) ∧ w' = w := by
  go_enter Try.func97, Try.ntmps97
  go_wp2
  go_ret
  exact ⟨by simp, rfl⟩
theorem tnans_any (x : ByteArray) (w : World) : Calls Try.prog 98 #[.string x] w fun e w' => e = .returned (.bool false) ∧ w' = w := by
  go_enter Try.func98, Try.ntmps98
  go_wp2
  go_ret
  exact ⟨by simp, rfl⟩
set_option maxRecDepth 100000 in
theorem tcmp1_any (x y : Int) (w : World) : Calls Try.prog 87 #[.int .i64 x, .int .i64 y] w fun e w' => e = .returned (.int .i64 (klen x y)) ∧ w' = w := by
  obtain ⟨R, hR⟩ : ∃ R, klen x y = R := ⟨_, rfl⟩
  rw [hR]
  have HR := Lib.hid hR
  clear hR
  go_enter Try.func87, Try.ntmps87
  go_wp2_with fail
  refine (tnan_any x w).mono ?_
  rintro e w' ⟨rfl, rfl⟩
  go_wp2_with fail
  refine (tnan_any y _).mono ?_
  rintro e w' ⟨rfl, rfl⟩
  by_cases h1 : x < y
  · have h1' : decide (x < y) = true := decide_eq_true h1
    obtain rfl : R = -1 := by rw [← HR.out]; unfold klen; rw [if_pos h1]
    go_wp2
    go_ret
    exact ⟨rfl, rfl⟩
  · have h1' : decide (x < y) = false := decide_eq_false h1
    by_cases h2 : y < x
    · have h2' : decide (x > y) = true := decide_eq_true h2
      obtain rfl : R = 1 := by rw [← HR.out]; unfold klen; rw [if_neg h1, if_pos h2]
      go_wp2
      go_ret
      exact ⟨rfl, rfl⟩
    · have h2' : decide (x > y) = false := decide_eq_false h2
      obtain rfl : R = 0 := by rw [← HR.out]; unfold klen; rw [if_neg h1, if_neg h2]
      go_wp2
      go_ret
      exact ⟨rfl, rfl⟩
set_option maxRecDepth 100000 in
theorem tcmps_any (x y : ByteArray) (p q : Bool) (hp : Op.bytesLess x.toList y.toList = p) (hq : (x.toList == y.toList) = q) (w : World) :
    Calls Try.prog 88 #[.string x, .string y] w fun e w' => e = .returned (.int .i64 (kone p q)) ∧ w' = w := by
  go_enter Try.func88, Try.ntmps88
  go_wp2_with fail
  refine (tnans_any x w).mono ?_
  rintro e w' ⟨rfl, rfl⟩
  go_wp2_with fail
  refine (tnans_any y _).mono ?_
  rintro e w' ⟨rfl, rfl⟩
  cases p with
  | true =>
    go_wp2
    go_ret
    exact ⟨rfl, rfl⟩
  | false =>
    cases q with
    | true =>
      have h2 : (!(Op.bytesLess x.toList y.toList || x.toList == y.toList)) = false := by rw [hp, hq]; rfl
      go_wp2
      go_ret
      exact ⟨rfl, rfl⟩
    | false =>
      have h2 : (!(Op.bytesLess x.toList y.toList || x.toList == y.toList)) = true := by rw [hp, hq]; rfl
      go_wp2
      go_ret
      exact ⟨rfl, rfl⟩
set_option maxRecDepth 100000 in
set_option maxHeartbeats 1000000 in
theorem tor_any (b : Nat) (c0 c1 : Int) (w : World) (p0 : w.cell? ⟨b, 0, none⟩ = some (.int .i64 c0)) (p1 : w.cell? ⟨b, 1, none⟩ = some (.int .i64 c1)) :
    Calls Try.prog 86 #[.slice (some ⟨b, 0, none⟩) 2 2] w fun e w' => e = .returned (.int .i64 (if c0 ≠ 0 then c0 else c1)) ∧ w' = w := by
  obtain ⟨R, hR⟩ : ∃ R, (if c0 ≠ 0 then c0 else c1) = R := ⟨_, rfl⟩
  rw [hR]
  have HR := Lib.hid hR
  clear hR
  go_enter Try.func86, Try.ntmps86
  go_wp2
  go_loopw [8] (fun z wr => ∃ k : Nat, k ≤ 2 ∧ z = .int .i64 k ∧ Hid (0 < k → c0 = 0) ∧ Hid (1 < k → c1 = 0) ∧ wr = w) (fun z _ => 2 - (intOf z).toNat)
  case atStart => exact ⟨0, by omega, rfl, fun h => by omega, fun h => by omega, rfl⟩
  case round =>
    obtain ⟨k, hk, rfl, h0, h1, rfl⟩ := hrel
    by_cases hk0 : k = 0
    · subst hk0
      by_cases hc : c0 = 0
      · subst hc
        go_wp2
        go_roundw
        case rel => exact ⟨1, by omega, by go_num, (fun _ => trivial), (fun h => by omega), trivial⟩
        case measure => simp [intOf]
      · have hcb : (c0 != 0) = true := by simpa using hc
        obtain rfl : R = c0 := by rw [← HR.out, if_pos hc]
        go_wp2
        go_ret
        exact ⟨rfl, rfl⟩
    · have hz := h0.out (by omega)
      subst hz
      by_cases hk1 : k = 1
      · subst hk1
        by_cases hc : c1 = 0
        · subst hc
          go_wp2
          go_roundw
          case rel => exact ⟨2, by omega, by go_num, (fun _ => trivial), (fun _ => trivial), trivial⟩
          case measure => simp [intOf]
        · have hcb : (c1 != 0) = true := by simpa using hc
          obtain rfl : R = c1 := by rw [← HR.out, if_neg (by simp)]
          go_wp2
          go_ret
          exact ⟨rfl, rfl⟩
      · obtain rfl : k = 2 := by omega
        have hz1 := h1.out (by omega)
        subst hz1
        obtain rfl : R = 0 := by rw [← HR.out]; simp
        go_wp2
        go_ret
        exact ⟨rfl, rfl⟩
/-- A key of a word. -/
def Ks : Type := { s : List UInt8 // s.length ≤ 1000 }
instance : Inhabited Ks := ⟨⟨[], by simp⟩⟩
def encK (x : Ks) : Value := .string ⟨x.1.toArray⟩
def cmpK (x y : Ks) : Int := kcmp x.1 y.1
theorem toList_mk (x : List UInt8) : ByteArray.toList ⟨x.toArray⟩ = x := by rw [Lib.toList_data]
set_option maxRecDepth 100000 in
set_option maxHeartbeats 1000000 in
theorem cmpK_any (x y : Ks) (W : World) : Calls Try.prog 85 #[encK x, encK y] W fun e w' => e = .returned (.int .i64 (cmpK x y)) ∧ ∃ q os', w' = Sort.grow (W.drewN q) os' := by
  obtain ⟨x, hx⟩ := x
  obtain ⟨y, hy⟩ := y
  unfold encK cmpK
  dsimp only
  obtain ⟨a, ha⟩ : ∃ a : ByteArray, ⟨x.toArray⟩ = a := ⟨_, rfl⟩
  obtain ⟨b, hb⟩ : ∃ a : ByteArray, ⟨y.toArray⟩ = a := ⟨_, rfl⟩
  have hax : a.toList = x := by rw [← ha, toList_mk]
  have hby : b.toList = y := by rw [← hb, toList_mk]
  have has : a.size = x.length := by rw [← ha]; simp [ByteArray.size]
  have hbs : b.size = y.length := by rw [← hb]; simp [ByteArray.size]
  rw [ha, hb]
  obtain ⟨c0, hc0⟩ : ∃ c, klen a.size b.size = c := ⟨_, rfl⟩
  obtain ⟨c1, hc1⟩ : ∃ c, kone (Op.bytesLess a.toList b.toList) (a.toList == b.toList) = c := ⟨_, rfl⟩
  have HC0 := Lib.hid fun w => tcmp1_any (a.size : Int) (b.size : Int) w
  have HC1 := Lib.hid fun w => tcmps_any a b _ _ rfl rfl w
  rw [hc0] at HC0
  rw [hc1] at HC1
  have HR : Hid (kcmp x y = if c0 ≠ 0 then c0 else c1) := by
    show _ = _
    rw [kcmp_eq, ← hc0, ← hc1, has, hbs, hax, hby]
  obtain ⟨R, hR⟩ : ∃ R, kcmp x y = R := ⟨_, rfl⟩
  rw [hR] at HR ⊢
  have hsx : a.size ≤ 1000 := by omega
  have hsy : b.size ≤ 1000 := by omega
  have HO := Lib.hid fun w p0 p1 => tor_any W.heap.size c0 c1 w p0 p1
  rw [← HR.out] at HO
  clear ha hb hax hby has hbs hc0 hc1 HR hR hx hy
  go_enter Try.func85, Try.ntmps85
  go_wp2_with fail
  refine (HC0.out _).mono ?_
  rintro e w' ⟨rfl, rfl⟩
  go_wp2_with fail
  refine (HC1.out _).mono ?_
  rintro e w' ⟨rfl, rfl⟩
  go_wp2_with fail
  refine (HO.out _ ?_ ?_).mono ?_
  · rw [cell_of_row _ _ _ _ _ _ (heap_alloc_new _ _)]; rfl
  · rw [cell_of_row _ _ _ _ _ _ (heap_alloc_new _ _)]; rfl
  rintro e w2 ⟨rfl, rfl⟩
  go_wp2
  go_ret
  exact ⟨rfl, 0, _, by rw [Sort.alloc_eq_grow]; rfl⟩
end Go.Proofs.Ytjodhihcckcefaa
