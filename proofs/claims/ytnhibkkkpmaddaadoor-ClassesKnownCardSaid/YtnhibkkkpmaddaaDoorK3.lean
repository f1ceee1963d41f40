/-
  The walk of the law ClassesClose.
-/
import Derived.Test.YtnhibkkkpmaddaaDoorC21
import Derived.Test.YtnhibkkkpmaddaaDoorC19
namespace Go.Proofs.YtnhibkkkpmaddaaDoor
open Go.RowKit

theorem list_nil' (A : Option Addr) (a : Int) (w : World) :
    Calls Tryd.prog 19 #[.slice A 0 0, .int .i64 a, .slice none 0 0, .int .i64 a] w fun e w' => e = .returned (.bool true) ∧ Below w.heap.size w w' :=
  list_yes A none 0 0 [] a w Rd.nil_ Rd.nil_ rfl (by omega)
theorem close_err (A : Option Addr) (c : Nat) (n f : Int) (ps : List (Int × Int)) (w : World) (h : RdP w A ps) (hl : ps.length ≤ 60) (hf : M.clE n ps = f) (h0 : f ≠ 0) :
    Calls Tryd.prog 23 #[.int .i64 n, .slice A ps.length c] w fun e w' => ∃ C, e = .returned (.tuple #[.slice C 0 0, .int .i64 f]) ∧ Below w.heap.size w w' := by
  refine (close_any A c n ps w h (by omega)).mono ?_
  rintro e w' ⟨C, rfl, _, hb⟩
  rw [hf, M.clV_err hf h0]
  exact ⟨C, rfl, hb⟩
theorem take_ok {n : Int} {ps : List (Int × Int)} {k : Nat} {x : Int × Int} (h : ∀ q ∈ ps.take k, M.okP n q) (hk : ps[k]? = some x) (hx : M.okP n x) : ∀ q ∈ ps.take (k + 1), M.okP n q := by
  intro q hq
  rw [List.take_add_one, hk] at hq
  rcases List.mem_append.1 hq with hq | hq
  · exact h q hq
  · obtain rfl : q = x := by simpa using hq
    exact hx

set_option maxRecDepth 100000 in
set_option maxHeartbeats 2000000 in
theorem classesClose_big (A : Option Addr) (c : Nat) (n : Int) (ps : List (Int × Int)) (w : World) (he : Env w) (h : RdP w A ps) (hl : ps.length ≤ 60) (h1 : 256 < n) :
    Calls Tryd.prog 5 #[.int .i64 n, .slice A ps.length c] w fun e w' => e = .returned (.bool true) ∧ Below w.heap.size w w' := by
  have hf : Hid (M.clE n ps = 3) := M.clE_limit h1
  go_enter Tryd.func5, Tryd.ntmps5
  go_wp2_with fail
  refine (close_err A c n 3 ps _ h hl hf.out (by omega)).mono ?_
  rintro e w1 ⟨B1, rfl, hb1⟩
  go_wp2
  go_loopw [7, 8] (fun u i wr => u = .int .i64 3 ∧ i = .int .i64 0 ∧ Below w.heap.size w wr) (fun _ _ _ => 0)
  case atStart => exact ⟨rfl, rfl, hb1⟩
  case round =>
    clear hb1
    obtain ⟨rfl, rfl, hbq⟩ := hrel
    by_cases hlt : (0 : Int) < ps.length
    · go_wp2_with fail
      refine (list_nil' B1 3 _).mono ?_
      rintro e w2 ⟨rfl, hb2⟩
      have hb := below_next hbq hb2
      go_wp2_with fail
      refine (lives_any _ (he.below hb)).mono ?_
      rintro e w3 ⟨rfl, hb3⟩
      go_wp2
      go_ret
      exact ⟨rfl, below_next hb hb3⟩
    · go_wp2_with fail
      refine (list_nil' B1 3 _).mono ?_
      rintro e w2 ⟨rfl, hb2⟩
      have hb := below_next hbq hb2
      go_wp2_with fail
      refine (lives_any _ (he.below hb)).mono ?_
      rintro e w3 ⟨rfl, hb3⟩
      go_wp2
      go_ret
      exact ⟨rfl, below_next hb hb3⟩

set_option maxRecDepth 100000 in
set_option maxHeartbeats 2000000 in
theorem classesClose_neg (A : Option Addr) (c : Nat) (n : Int) (ps : List (Int × Int)) (w : World) (he : Env w) (h : RdP w A ps) (hl : ps.length ≤ 60) (h1 : n < 0) :
    Calls Tryd.prog 5 #[.int .i64 n, .slice A ps.length c] w fun e w' => e = .returned (.bool true) ∧ Below w.heap.size w w' := by
  have hf : Hid (M.clE n ps = 1) := M.clE_arg (by omega) h1
  go_enter Tryd.func5, Tryd.ntmps5
  go_wp2_with fail
  refine (close_err A c n 1 ps _ h hl hf.out (by omega)).mono ?_
  rintro e w1 ⟨B1, rfl, hb1⟩
  go_wp2
  go_loopw [7, 8] (fun u i wr => u = .int .i64 1 ∧ i = .int .i64 0 ∧ Below w.heap.size w wr) (fun _ _ _ => 0)
  case atStart => exact ⟨rfl, rfl, hb1⟩
  case round =>
    clear hb1
    obtain ⟨rfl, rfl, hbq⟩ := hrel
    by_cases hlt : (0 : Int) < ps.length
    · go_wp2_with fail
      refine (list_nil' B1 1 _).mono ?_
      rintro e w2 ⟨rfl, hb2⟩
      have hb := below_next hbq hb2
      go_wp2_with fail
      refine (lives_any _ (he.below hb)).mono ?_
      rintro e w3 ⟨rfl, hb3⟩
      go_wp2
      go_ret
      exact ⟨rfl, below_next hb hb3⟩
    · go_wp2_with fail
      refine (list_nil' B1 1 _).mono ?_
      rintro e w2 ⟨rfl, hb2⟩
      have hb := below_next hbq hb2
      go_wp2_with fail
      refine (lives_any _ (he.below hb)).mono ?_
      rintro e w3 ⟨rfl, hb3⟩
      go_wp2
      go_ret
      exact ⟨rfl, below_next hb hb3⟩

set_option maxRecDepth 100000 in
set_option maxHeartbeats 2000000 in
theorem classesClose_bad (A : Option Addr) (c : Nat) (n : Nat) (ps : List (Int × Int)) (w : World) (he : Env w) (h : RdP w A ps) (hl : ps.length ≤ 60) (h1 : n ≤ 256) (hb : ¬ ∀ x ∈ ps, M.okP n x) :
    Calls Tryd.prog 5 #[.int .i64 n, .slice A ps.length c] w fun e w' => e = .returned (.bool true) ∧ Below w.heap.size w w' := by
  have hf : Hid (M.clE n ps = 1) := by
    rw [Hid, M.clE, if_neg (by omega), if_neg (by omega), if_neg hb]
  have HB := Lib.hid hb
  clear hb
  go_enter Tryd.func5, Tryd.ntmps5
  go_wp2_with fail
  refine (close_err A c n 1 ps _ h hl hf.out (by omega)).mono ?_
  rintro e w1 ⟨B1, rfl, hb1⟩
  go_wp2
  go_loopw [7, 8] (fun u i wr => ∃ (k : Nat) (x : Int), k ≤ ps.length ∧ i = .int .i64 k ∧ u = .int .i64 x ∧ ((x = 0 ∧ Hid (∀ q ∈ ps.take k, M.okP n q)) ∨ x = 1) ∧ Below w.heap.size w wr) (fun _ i _ => ps.length - (intOf i).toNat)
  case atStart => exact ⟨0, 0, Nat.zero_le _, rfl, rfl, .inl ⟨rfl, by simp [Hid]⟩, hb1⟩
  case round =>
    clear hb1
    obtain ⟨k, x0, hk, rfl, rfl, hor, hbq⟩ := hrel
    rcases hor with ⟨rfl, hok⟩ | rfl
    · by_cases hlt : k < ps.length
      · obtain ⟨b, off, rfl⟩ := h.opn (by omega)
        obtain ⟨x, y, hb, hc1, hc2, hxy⟩ := (h.below hbq).cl hlt
        by_cases hg : M.okP n (x, y)
        · obtain ⟨q1, q2, q3, q4⟩ := hg
          simp only at q1 q2 q3 q4
          have hok' : Hid (∀ q ∈ ps.take (k + 1), M.okP n q) := take_ok hok.out hxy.out ⟨by simp only; omega, by simp only; omega, by simp only; omega, by simp only; omega⟩
          clear hok
          go_wp2
          go_roundw
          case rel => exact ⟨k + 1, 0, by omega, by go_num, rfl, .inl ⟨rfl, hok'⟩, hbq⟩
          case measure => simp [intOf] <;> omega
        · have hbad : x < 0 ∨ (0 ≤ x ∧ (n : Int) ≤ x) ∨ (0 ≤ x ∧ x < n ∧ y < 0) ∨ (0 ≤ x ∧ x < n ∧ 0 ≤ y ∧ (n : Int) ≤ y) := by
            unfold M.okP at hg
            simp only at hg
            omega
          clear hg
          rcases hbad with hq | ⟨hq, hq2⟩ | ⟨hq, hq2, hq3⟩ | ⟨hq, hq2, hq3, hq4⟩
          · skip
            go_wp2
            go_roundw
            case rel => exact ⟨k + 1, 1, by omega, by go_num, rfl, .inr rfl, hbq⟩
            case measure => simp [intOf] <;> omega
          · skip
            go_wp2
            go_roundw
            case rel => exact ⟨k + 1, 1, by omega, by go_num, rfl, .inr rfl, hbq⟩
            case measure => simp [intOf] <;> omega
          · skip
            go_wp2
            go_roundw
            case rel => exact ⟨k + 1, 1, by omega, by go_num, rfl, .inr rfl, hbq⟩
            case measure => simp [intOf] <;> omega
          · skip
            go_wp2
            go_roundw
            case rel => exact ⟨k + 1, 1, by omega, by go_num, rfl, .inr rfl, hbq⟩
            case measure => simp [intOf] <;> omega
      · have hx : False := HB.out (by
          have := hok.out
          rwa [List.take_of_length_le (by omega)] at this)
        exact hx.elim
    · by_cases hlt : k < ps.length
      · go_wp2_with fail
        refine (list_nil' B1 1 _).mono ?_
        rintro e w2 ⟨rfl, hb2⟩
        have hb := below_next hbq hb2
        go_wp2_with fail
        refine (lives_any _ (he.below hb)).mono ?_
        rintro e w3 ⟨rfl, hb3⟩
        go_wp2
        go_ret
        exact ⟨rfl, below_next hb hb3⟩
      · go_wp2_with fail
        refine (list_nil' B1 1 _).mono ?_
        rintro e w2 ⟨rfl, hb2⟩
        have hb := below_next hbq hb2
        go_wp2_with fail
        refine (lives_any _ (he.below hb)).mono ?_
        rintro e w3 ⟨rfl, hb3⟩
        go_wp2
        go_ret
        exact ⟨rfl, below_next hb hb3⟩

set_option maxRecDepth 100000 in
set_option maxHeartbeats 2000000 in
theorem classesClose_good (A : Option Addr) (c : Nat) (n : Nat) (ps : List (Int × Int)) (w : World) (he : Env w) (h : RdP w A ps) (hl : ps.length ≤ 60) (h1 : n ≤ 256) (hb : ∀ x ∈ ps, M.okP n x) :
    Calls Tryd.prog 5 #[.int .i64 n, .slice A ps.length c] w fun e w' => e = .returned (.bool true) ∧ Below w.heap.size w w' := by
  have hf : M.clE n ps = 0 := M.clE_ok (by omega) (by omega) hb
  have HV := Lib.hid (M.clV_ok hf)
  have hI : InP n ps := fun x hx => by have := hb x hx; exact ⟨this.1, this.2.1, this.2.2.1, this.2.2.2⟩
  have HI := Lib.hid hI
  have HF := Lib.hid hf
  have HB := Lib.hid hb
  obtain ⟨R, hR⟩ : ∃ R, Hid (M.close n (natP ps) = R) := ⟨_, rfl⟩
  have hRl : Hid (R.length = n) := by rw [Hid, ← hR.out]; exact M.close_len _ _
  have C1 := close_lit A ps.length c n 0 ps R w h rfl (by omega) hf (by rw [HV.out, Int.toNat_natCast, hR.out])
  rw [hRl.out] at C1
  clear hb hI hf
  go_enter Tryd.func5, Tryd.ntmps5
  go_wp2_with fail
  refine C1.mono ?_
  rintro e w1 ⟨B1, rfl, hr1, hb1⟩
  go_wp2
  go_loopw [7, 8] (fun u i wr => ∃ k : Nat, u = .int .i64 0 ∧ k ≤ ps.length ∧ i = .int .i64 k ∧ Below w1.heap.size w1 wr) (fun _ i _ => ps.length - (intOf i).toNat)
  case atStart => exact ⟨0, rfl, Nat.zero_le _, rfl, Below.refl _ _⟩
  case round =>
    obtain ⟨k, rfl, hk, rfl, hbq⟩ := hrel
    by_cases hlt : k < ps.length
    · obtain ⟨b, off, rfl⟩ := h.opn (by omega)
      obtain ⟨x, y, hb, hc1, hc2, hxy⟩ := (h.below (below_next hb1 hbq)).cl hlt
      obtain ⟨q1, q2, q3, q4⟩ := HB.out (x, y) (List.mem_of_getElem? hxy.out)
      simp only at q1 q2 q3 q4
      clear hxy
      go_wp2
      go_roundw
      case rel => exact ⟨k + 1, rfl, by omega, by go_num, hbq⟩
      case measure => simp [intOf] <;> omega
    · have C2 := rclose_at A c n ps.length ps _ (h.below (below_next hb1 hbq)) rfl h1 (by omega) HI.out
      rw [hR.out] at C2
      go_wp2_with fail
      refine C2.mono ?_
      rintro e w2 ⟨C, c2, rfl, hr2, _, hb2⟩
      rw [hRl.out]
      have hbw := below_next (below_next hb1 hbq) hb2
      go_wp2_with fail
      refine (list_yes B1 C n c2 R 0 _ ((hr1.below hbq).below hb2) hr2 hRl.out (by omega)).mono ?_
      rintro e w3 ⟨rfl, hb3⟩
      have hbw3 := below_next hbw hb3
      go_wp2_with fail
      refine (lives_any _ (he.below hbw3)).mono ?_
      rintro e w4 ⟨rfl, hb4⟩
      go_wp2
      go_ret
      exact ⟨rfl, below_next hbw3 hb4⟩

theorem classesClose_walk (A : Option Addr) (c : Nat) (n : Int) (ps : List (Int × Int)) (w : World) (he : Env w) (h : RdP w A ps) :
    Calls Tryd.prog 5 #[.int .i64 n, .slice A ps.length c] w fun e w' => e = .returned (.bool true) ∧ Below w.heap.size w w' := by
  by_cases hl : ps.length ≤ 60
  · by_cases h1 : 256 < n
    · exact classesClose_big A c n ps w he h hl h1
    · by_cases h2 : n < 0
      · exact classesClose_neg A c n ps w he h hl h2
      · obtain ⟨k, rfl⟩ : ∃ k : Nat, n = k := ⟨n.toNat, by omega⟩
        by_cases hb : ∀ x ∈ ps, M.okP k x
        · exact classesClose_good A c k ps w he h hl (by omega) hb
        · exact classesClose_bad A c k ps w he h hl (by omega) hb
  · go_enter Tryd.func5, Tryd.ntmps5
    go_wp2
    go_ret
    exact ⟨rfl, Below.refl _ _⟩
end Go.Proofs.YtnhibkkkpmaddaaDoor
