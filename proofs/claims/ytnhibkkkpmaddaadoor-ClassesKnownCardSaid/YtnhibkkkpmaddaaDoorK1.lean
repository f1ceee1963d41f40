/-
  The walk of the law ClassesCheck.
-/
import Derived.Test.YtnhibkkkpmaddaaDoorC21
import Derived.Test.YtnhibkkkpmaddaaDoorC19
namespace Go.Proofs.YtnhibkkkpmaddaaDoor
open Go.RowKit

theorem blocks_err (A : Option Addr) (c : Nat) (p : List Int) (a : Int) (w : World) (h : Rd w A p) (ha : M.pck p = a) (h0 : a ≠ 0) :
    Calls Tryd.prog 13 #[.slice A p.length c] w fun e w' => e = .returned (.tuple #[.slice none 0 0, .int .i64 a]) ∧ Below w.heap.size w w' := by
  subst ha
  have := blocks_any A c p w h
  unfold Blks at this
  simpa only [if_neg h0] using this
theorem count_err (A : Option Addr) (c : Nat) (p : List Int) (a : Int) (w : World) (h : Rd w A p) (ha : M.pck p = a) (h0 : a ≠ 0) :
    Calls Tryd.prog 12 #[.slice A p.length c] w fun e w' => e = .returned (.tuple #[.int .i64 0, .int .i64 a]) ∧ Below w.heap.size w w' := by
  have := count_any A c p w h
  rwa [ha, M.cntV_err ha h0] at this
theorem text_err (A : Option Addr) (c : Nat) (p : List Int) (a : Int) (w : World) (he : Env w) (h : Rd w A p) (ha : M.pck p = a) (h0 : a ≠ 0) :
    Calls Tryd.prog 14 #[.slice A p.length c] w fun e w' => e = .returned (.tuple #[.string ⟨#[]⟩, .int .i64 a]) ∧ Below w.heap.size w w' := by
  have := text_any A c p w he h
  rw [ha, M.textV_err ha h0] at this
  exact this
theorem text_ok (A : Option Addr) (c : Nat) (p : List Int) (w : World) (he : Env w) (h : Rd w A p) (ha : M.pck p = 0) :
    Calls Tryd.prog 14 #[.slice A p.length c] w fun e w' => e = .returned (.tuple #[.string ⟨(M.textP p).toArray⟩, .int .i64 0]) ∧ Below w.heap.size w w' := by
  have := text_any A c p w he h
  rwa [ha, M.textV_ok ha] at this
theorem meet_err (A B : Option Addr) (c d : Nat) (p q : List Int) (a : Int) (w : World) (hp : Rd w A p) (hq : Rd w B q) (ha : M.both p q = a) (h0 : a ≠ 0) :
    Calls Tryd.prog 16 #[.slice A p.length c, .slice B q.length d] w fun e w' => ∃ C, e = .returned (.tuple #[.slice C 0 0, .int .i64 a]) ∧ Below w.heap.size w w' := by
  refine (meet_any A B c d p q w hp hq).mono ?_
  rintro e w' ⟨C, rfl, _, hb⟩
  rw [ha, M.meetV_err ha h0]
  exact ⟨C, rfl, hb⟩
theorem join_err (A B : Option Addr) (c d : Nat) (p q : List Int) (a : Int) (w : World) (hp : Rd w A p) (hq : Rd w B q) (ha : M.both p q = a) (h0 : a ≠ 0) :
    Calls Tryd.prog 17 #[.slice A p.length c, .slice B q.length d] w fun e w' => ∃ C, e = .returned (.tuple #[.slice C 0 0, .int .i64 a]) ∧ Below w.heap.size w w' := by
  refine (join_any A B c d p q w hp hq).mono ?_
  rintro e w' ⟨C, rfl, _, hb⟩
  rw [ha, M.joinV_err ha h0]
  exact ⟨C, rfl, hb⟩
theorem finer_err (A B : Option Addr) (c d : Nat) (p q : List Int) (a : Int) (w : World) (hp : Rd w A p) (hq : Rd w B q) (ha : M.both p q = a) (h0 : a ≠ 0) :
    Calls Tryd.prog 18 #[.slice A p.length c, .slice B q.length d] w fun e w' => e = .returned (.tuple #[.bool false, .int .i64 a]) ∧ Below w.heap.size w w' := by
  have := finer_any A B c d p q w hp hq
  rwa [ha, M.finV_err ha h0] at this
theorem rcheck_is (A : Option Addr) (c : Nat) (p : List Int) (a : Int) (w : World) (h : Rd w A p) (ha : M.pck p = a) :
    Calls Tryd.prog 10 #[.slice A p.length c] w fun e w' => e = .returned (.int .i64 a) ∧ Below w.heap.size w w' := by
  subst ha
  exact rcheck_any A c p w h
theorem check_is (A : Option Addr) (c : Nat) (p : List Int) (a : Int) (w : World) (h : Rd w A p) (ha : M.pck p = a) :
    Calls Tryd.prog 11 #[.slice A p.length c] w fun e w' => e = .returned (.int .i64 a) ∧ Below w.heap.size w w' := by
  subst ha
  exact check_any A c p w h
theorem list_nil (A : Option Addr) (a : Int) (w : World) :
    Calls Tryd.prog 19 #[.slice A 0 0, .int .i64 a, .slice none 0 0, .int .i64 a] w fun e w' => e = .returned (.bool true) ∧ Below w.heap.size w w' :=
  list_yes A none 0 0 [] a w Rd.nil_ Rd.nil_ rfl (by omega)

set_option maxRecDepth 100000 in
set_option maxHeartbeats 2000000 in
theorem classesCheck_one (A B : Option Addr) (c d : Nat) (p q : List Int) (a : Int) (w : World) (he : Env w) (hp : Rd w A p) (hq : Rd w B q) (l1 : p.length ≤ 300) (l2 : q.length ≤ 300) (ha : M.pck p = a) (h0 : a ≠ 0) :
    Calls Tryd.prog 3 #[.slice A p.length c, .slice B q.length d] w fun e w' => e = .returned (.bool true) ∧ Below w.heap.size w w' := by
  have HA := Lib.hid ha
  have HB := Lib.hid (M.both_left (q := q) ha h0)
  have hne : (a != 0) = true := by simpa using h0
  have hne2 : (a == 0) = false := by simpa using h0
  have s0 := ((St.start w).put hq).put hp
  clear ha
  go_enter Tryd.func3, Tryd.ntmps3
  go_wp2_with fail
  refine (rcheck_is A c p a _ (s0.rd 0 rfl) HA.out).mono ?_
  rintro e w1 ⟨rfl, hb1⟩
  have s1 := s0.next hb1
  clear s0 hb1
  go_wp2_with fail
  refine (check_is A c p a _ (s1.rd 0 rfl) HA.out).mono ?_
  rintro e w2 ⟨rfl, hb2⟩
  have s2 := s1.next hb2
  clear s1 hb2
  go_wp2_with fail
  refine (count_err A c p a _ (s2.rd 0 rfl) HA.out h0).mono ?_
  rintro e w3 ⟨rfl, hb3⟩
  have s3 := s2.next hb3
  clear s2 hb3
  go_wp2_with fail
  refine (blocks_err A c p a _ (s3.rd 0 rfl) HA.out h0).mono ?_
  rintro e w4 ⟨rfl, hb4⟩
  have s4 := s3.next hb4
  clear s3 hb4
  go_wp2_with fail
  refine (text_err A c p a _ (s4.env he) (s4.rd 0 rfl) HA.out h0).mono ?_
  rintro e w5 ⟨rfl, hb5⟩
  have s5 := s4.next hb5
  clear s4 hb5
  go_wp2_with fail
  refine (meet_err A B c d p q a _ (s5.rd 0 rfl) (s5.rd 1 rfl) HB.out h0).mono ?_
  rintro e w6 ⟨C6, rfl, hb6⟩
  have s6 := s5.next hb6
  clear s5 hb6
  go_wp2_with fail
  refine (join_err A B c d p q a _ (s6.rd 0 rfl) (s6.rd 1 rfl) HB.out h0).mono ?_
  rintro e w7 ⟨C7, rfl, hb7⟩
  have s7 := s6.next hb7
  clear s6 hb7
  go_wp2_with fail
  refine (finer_err A B c d p q a _ (s7.rd 0 rfl) (s7.rd 1 rfl) HB.out h0).mono ?_
  rintro e w8 ⟨rfl, hb8⟩
  have s8 := s7.next hb8
  clear s7 hb8
  go_wp2_with fail
  refine (list_nil C6 a _).mono ?_
  rintro e w9 ⟨rfl, hb9⟩
  have s9 := s8.next hb9
  clear s8 hb9
  go_wp2_with fail
  refine (list_nil C7 a _).mono ?_
  rintro e w10 ⟨rfl, hb10⟩
  have s10 := s9.next hb10
  clear s9 hb10
  go_wp2_with fail
  refine (lives_any _ (s10.env he)).mono ?_
  rintro e w11 ⟨rfl, hb11⟩
  have s11 := s10.next hb11
  go_wp2
  go_ret
  exact ⟨rfl, s11.1⟩
set_option maxRecDepth 100000 in
set_option maxHeartbeats 2000000 in
theorem classesCheck_two (A B : Option Addr) (c d : Nat) (p q : List Int) (b : Int) (w : World) (he : Env w) (hp : Rd w A p) (hq : Rd w B q) (l1 : p.length ≤ 300) (l2 : q.length ≤ 300) (ha : M.pck p = 0) (hb : M.pck q = b) (h0 : b ≠ 0) :
    Calls Tryd.prog 3 #[.slice A p.length c, .slice B q.length d] w fun e w' => e = .returned (.bool true) ∧ Below w.heap.size w w' := by
  have HA := Lib.hid ha
  have HQ := Lib.hid hb
  have HB := Lib.hid (M.both_right ha hb h0)
  have hf0 := h0
  have hne : (b != 0) = true := by simpa using h0
  have hne2 : (b == 0) = false := by simpa using h0
  have s0 := ((St.start w).put hq).put hp
  clear ha hb
  go_enter Tryd.func3, Tryd.ntmps3
  go_wp2_with fail
  refine (rcheck_is A c p 0 _ (s0.rd 0 rfl) HA.out).mono ?_
  rintro e w1 ⟨rfl, hb1⟩
  have s1 := s0.next hb1
  clear s0 hb1
  go_wp2_with fail
  refine (check_is A c p 0 _ (s1.rd 0 rfl) HA.out).mono ?_
  rintro e w2 ⟨rfl, hb2⟩
  have s2 := s1.next hb2
  clear s1 hb2
  go_wp2_with fail
  refine (count_lit A p.length c _ p _ (s2.rd 0 rfl) rfl HA.out rfl).mono ?_
  rintro e w3 ⟨rfl, hb3⟩
  have s3 := s2.next hb3
  clear s2 hb3
  go_wp2_with fail
  refine (blocks_lit A p.length c _ p _ (s3.rd 0 rfl) rfl HA.out rfl).mono ?_
  rintro e w4 ⟨L4, rfl, _, hb4⟩
  have s4 := s3.next hb4
  clear s3 hb4
  go_wp2_with fail
  refine (text_ok A c p _ (s4.env he) (s4.rd 0 rfl) HA.out).mono ?_
  rintro e w5 ⟨rfl, hb5⟩
  have s5 := s4.next hb5
  clear s4 hb5
  go_wp2_with fail
  refine (rcheck_is B d q b _ (s5.rd 1 rfl) HQ.out).mono ?_
  rintro e w6 ⟨rfl, hb6⟩
  have s6 := s5.next hb6
  clear s5 hb6
  go_wp2_with fail
  refine (meet_err A B c d p q b _ (s6.rd 0 rfl) (s6.rd 1 rfl) HB.out hf0).mono ?_
  rintro e w7 ⟨C7, rfl, hb7⟩
  have s7 := s6.next hb7
  clear s6 hb7
  go_wp2_with fail
  refine (join_err A B c d p q b _ (s7.rd 0 rfl) (s7.rd 1 rfl) HB.out hf0).mono ?_
  rintro e w8 ⟨C8, rfl, hb8⟩
  have s8 := s7.next hb8
  clear s7 hb8
  go_wp2_with fail
  refine (finer_err A B c d p q b _ (s8.rd 0 rfl) (s8.rd 1 rfl) HB.out hf0).mono ?_
  rintro e w9 ⟨rfl, hb9⟩
  have s9 := s8.next hb9
  clear s8 hb9
  go_wp2_with fail
  refine (list_nil C7 b _).mono ?_
  rintro e w10 ⟨rfl, hb10⟩
  have s10 := s9.next hb10
  clear s9 hb10
  go_wp2_with fail
  refine (list_nil C8 b _).mono ?_
  rintro e w11 ⟨rfl, hb11⟩
  have s11 := s10.next hb11
  clear s10 hb11
  go_wp2_with fail
  refine (lives_any _ (s11.env he)).mono ?_
  rintro e w12 ⟨rfl, hb12⟩
  have s12 := s11.next hb12
  clear s11 hb12
  go_wp2
  go_ret
  exact ⟨rfl, s12.1⟩

set_option maxRecDepth 100000 in
set_option maxHeartbeats 2000000 in
theorem classesCheck_three (A B : Option Addr) (c d : Nat) (p q : List Int) (w : World) (he : Env w) (hp : Rd w A p) (hq : Rd w B q) (l1 : p.length ≤ 300) (l2 : q.length ≤ 300) (ha : M.pck p = 0) (hb : M.pck q = 0) (hl : p.length ≠ q.length) :
    Calls Tryd.prog 3 #[.slice A p.length c, .slice B q.length d] w fun e w' => e = .returned (.bool true) ∧ Below w.heap.size w w' := by
  have HA := Lib.hid ha
  have HQ := Lib.hid hb
  have HB := Lib.hid (M.both_count ha hb hl)
  have hf0 : (16 : Int) ≠ 0 := by omega
  have hne : ((p.length : Int) != q.length) = true := by simp; omega
  have s0 := ((St.start w).put hq).put hp
  clear ha hb hl
  go_enter Tryd.func3, Tryd.ntmps3
  go_wp2_with fail
  refine (rcheck_is A c p 0 _ (s0.rd 0 rfl) HA.out).mono ?_
  rintro e w1 ⟨rfl, hb1⟩
  have s1 := s0.next hb1
  clear s0 hb1
  go_wp2_with fail
  refine (check_is A c p 0 _ (s1.rd 0 rfl) HA.out).mono ?_
  rintro e w2 ⟨rfl, hb2⟩
  have s2 := s1.next hb2
  clear s1 hb2
  go_wp2_with fail
  refine (count_lit A p.length c _ p _ (s2.rd 0 rfl) rfl HA.out rfl).mono ?_
  rintro e w3 ⟨rfl, hb3⟩
  have s3 := s2.next hb3
  clear s2 hb3
  go_wp2_with fail
  refine (blocks_lit A p.length c _ p _ (s3.rd 0 rfl) rfl HA.out rfl).mono ?_
  rintro e w4 ⟨L4, rfl, _, hb4⟩
  have s4 := s3.next hb4
  clear s3 hb4
  go_wp2_with fail
  refine (text_ok A c p _ (s4.env he) (s4.rd 0 rfl) HA.out).mono ?_
  rintro e w5 ⟨rfl, hb5⟩
  have s5 := s4.next hb5
  clear s4 hb5
  go_wp2_with fail
  refine (rcheck_is B d q 0 _ (s5.rd 1 rfl) HQ.out).mono ?_
  rintro e w6 ⟨rfl, hb6⟩
  have s6 := s5.next hb6
  clear s5 hb6
  go_wp2_with fail
  refine (meet_err A B c d p q 16 _ (s6.rd 0 rfl) (s6.rd 1 rfl) HB.out hf0).mono ?_
  rintro e w7 ⟨C7, rfl, hb7⟩
  have s7 := s6.next hb7
  clear s6 hb7
  go_wp2_with fail
  refine (join_err A B c d p q 16 _ (s7.rd 0 rfl) (s7.rd 1 rfl) HB.out hf0).mono ?_
  rintro e w8 ⟨C8, rfl, hb8⟩
  have s8 := s7.next hb8
  clear s7 hb8
  go_wp2_with fail
  refine (finer_err A B c d p q 16 _ (s8.rd 0 rfl) (s8.rd 1 rfl) HB.out hf0).mono ?_
  rintro e w9 ⟨rfl, hb9⟩
  have s9 := s8.next hb9
  clear s8 hb9
  go_wp2_with fail
  refine (list_nil C7 16 _).mono ?_
  rintro e w10 ⟨rfl, hb10⟩
  have s10 := s9.next hb10
  clear s9 hb10
  go_wp2_with fail
  refine (list_nil C8 16 _).mono ?_
  rintro e w11 ⟨rfl, hb11⟩
  have s11 := s10.next hb11
  clear s10 hb11
  go_wp2_with fail
  refine (lives_any _ (s11.env he)).mono ?_
  rintro e w12 ⟨rfl, hb12⟩
  have s12 := s11.next hb12
  clear s11 hb12
  go_wp2
  go_ret
  exact ⟨rfl, s12.1⟩

set_option maxRecDepth 100000 in
set_option maxHeartbeats 2000000 in
theorem classesCheck_four (A B : Option Addr) (c d : Nat) (p q : List Int) (w : World) (he : Env w) (hp : Rd w A p) (hq : Rd w B q) (l1 : p.length ≤ 300) (l2 : q.length ≤ 300) (ha : M.pck p = 0) (hb : M.pck q = 0) (hl : p.length = q.length) :
    Calls Tryd.prog 3 #[.slice A p.length c, .slice B q.length d] w fun e w' => e = .returned (.bool true) ∧ Below w.heap.size w w' := by
  have HA := Lib.hid ha
  have HQ := Lib.hid hb
  have hne : ((p.length : Int) != q.length) = false := by simp; omega
  have s0 := ((St.start w).put hq).put hp
  clear ha hb hl
  go_enter Tryd.func3, Tryd.ntmps3
  go_wp2_with fail
  refine (rcheck_is A c p 0 _ (s0.rd 0 rfl) HA.out).mono ?_
  rintro e w1 ⟨rfl, hb1⟩
  have s1 := s0.next hb1
  clear s0 hb1
  go_wp2_with fail
  refine (check_is A c p 0 _ (s1.rd 0 rfl) HA.out).mono ?_
  rintro e w2 ⟨rfl, hb2⟩
  have s2 := s1.next hb2
  clear s1 hb2
  go_wp2_with fail
  refine (count_lit A p.length c _ p _ (s2.rd 0 rfl) rfl HA.out rfl).mono ?_
  rintro e w3 ⟨rfl, hb3⟩
  have s3 := s2.next hb3
  clear s2 hb3
  go_wp2_with fail
  refine (blocks_lit A p.length c _ p _ (s3.rd 0 rfl) rfl HA.out rfl).mono ?_
  rintro e w4 ⟨L4, rfl, _, hb4⟩
  have s4 := s3.next hb4
  clear s3 hb4
  go_wp2_with fail
  refine (text_ok A c p _ (s4.env he) (s4.rd 0 rfl) HA.out).mono ?_
  rintro e w5 ⟨rfl, hb5⟩
  have s5 := s4.next hb5
  clear s4 hb5
  go_wp2_with fail
  refine (rcheck_is B d q 0 _ (s5.rd 1 rfl) HQ.out).mono ?_
  rintro e w6 ⟨rfl, hb6⟩
  have s6 := s5.next hb6
  clear s5 hb6
  go_wp2_with fail
  refine (lives_any _ (s6.env he)).mono ?_
  rintro e w7 ⟨rfl, hb7⟩
  have s7 := s6.next hb7
  clear s6 hb7
  go_wp2
  go_ret
  exact ⟨rfl, s7.1⟩

theorem classesCheck_walk (A B : Option Addr) (c d : Nat) (p q : List Int) (w : World) (he : Env w) (hp : Rd w A p) (hq : Rd w B q) :
    Calls Tryd.prog 3 #[.slice A p.length c, .slice B q.length d] w fun e w' => e = .returned (.bool true) ∧ Below w.heap.size w w' := by
  by_cases l1 : p.length ≤ 300
  · by_cases l2 : q.length ≤ 300
    · by_cases ha : M.pck p = 0
      · by_cases hb : M.pck q = 0
        · by_cases hl : p.length = q.length
          · exact classesCheck_four A B c d p q w he hp hq l1 l2 ha hb hl
          · exact classesCheck_three A B c d p q w he hp hq l1 l2 ha hb hl
        · exact classesCheck_two A B c d p q _ w he hp hq l1 l2 ha rfl hb
      · exact classesCheck_one A B c d p q _ w he hp hq l1 l2 rfl ha
    · go_enter Tryd.func3, Tryd.ntmps3
      go_wp2
      go_ret
      exact ⟨rfl, Below.refl _ _⟩
  · go_enter Tryd.func3, Tryd.ntmps3
    go_wp2
    go_ret
    exact ⟨rfl, Below.refl _ _⟩
end Go.Proofs.YtnhibkkkpmaddaaDoor
