/-
  Contracts: classes.Parse.
-/
import Derived.Test.YtnhibkkkpmaddaaDoorC17
namespace Go.Proofs.YtnhibkkkpmaddaaDoor
open Go.RowKit

theorem bytes_list {s : ByteArray} {l : List UInt8} (h : s.data.toList = l) : s = ⟨l.toArray⟩ := by
  obtain ⟨⟨k⟩⟩ := s
  simp at h
  subst h
  rfl
theorem read_dash (w : World) :
    Calls Tryd.prog 40 #[.string ⟨#[45]⟩] w (Rres w (some [])) := by
  go_enter Tryd.func40, Tryd.ntmps40
  go_wp2
  go_ret2
  exact Rres.some_ (p := []) rfl rfl Rd.nil_ (by omega) ((Below.refl _ _).alloc (Nat.le_refl _) _)
theorem read_all (s : ByteArray) (w : World) (he : Env w) (hs : s.size ≤ 65536) :
    Calls Tryd.prog 40 #[.string s] w (Rres w (M.readL s.data.toList)) := by
  by_cases hd : s.data.toList = [45]
  · have e : M.readL s.data.toList = some [] := by rw [hd]; rfl
    rw [e, bytes_list hd]
    exact read_dash w
  · exact read_any s w he hs hd
namespace M
theorem pparse_limit {s : List UInt8} (h : 65536 < s.length) : pparse s = ([], 3) := by simp [pparse, h]
theorem pparse_none {s : List UInt8} (h : ¬ 65536 < s.length) (h1 : readL s = none) : pparse s = ([], 4) := by simp [pparse, h, h1]
theorem pparse_bad {s : List UInt8} {p : List Int} (h : ¬ 65536 < s.length) (h1 : readL s = some p) (h2 : ¬ (pck p = 0 ∧ textP p = s)) : pparse s = ([], 4) := by
  unfold pparse
  rw [if_neg h, h1]
  simp only
  rw [if_neg h2]
theorem pparse_ok {s : List UInt8} {p : List Int} (h : ¬ 65536 < s.length) (h1 : readL s = some p) (h2 : pck p = 0) (h3 : textP p = s) : pparse s = (p, 0) := by
  unfold pparse
  rw [if_neg h, h1]
  simp only
  rw [if_pos ⟨h2, h3⟩]
end M
theorem made_of {w w' : World} {s : List UInt8} {xs : List Int} {f : Int} {A : Option Addr} {m : Nat} (h : M.pparse s = (xs, f)) (hm : xs.length = m) (hr : Rd w' A xs) (hb : Below w.heap.size w w') : Made w (M.pparse s).1 (M.pparse s).2 (.returned (.tuple #[.slice A m m, .int .i64 f])) w' := by
  rw [h]
  exact Made.mk rfl rfl hm hr hb

theorem text_at (A : Option Addr) (c m : Nat) (p : List Int) (w : World) (he : Env w) (h : Rd w A p) (e : p.length = m) :
    Calls Tryd.prog 14 #[.slice A m c] w fun e w' => e = .returned (.tuple #[.string ⟨(M.textV p).toArray⟩, .int .i64 (M.pck p)]) ∧ Below w.heap.size w w' := by
  subst e
  exact text_any A c p w he h

set_option maxRecDepth 100000 in
set_option maxHeartbeats 1000000 in
theorem parse_any (s : ByteArray) (w : World) (he : Env w) :
    Calls Tryd.prog 31 #[.string s] w (Made w (M.pparse s.data.toList).1 (M.pparse s.data.toList).2) := by
  by_cases hs : 65536 < s.size
  · have hf := Lib.hid (M.pparse_limit (s := s.data.toList) (by rw [len_byte']; exact hs))
    go_enter Tryd.func31, Tryd.ntmps31
    go_wp2
    go_ret2
    exact made_of hf.out rfl Rd.nil_ (Below.refl _ _)
  · have hs' : ¬ 65536 < s.data.toList.length := by rw [len_byte']; exact hs
    have C := read_all s w he (by omega)
    cases hr : M.readL s.data.toList with
    | none =>
      have hf := Lib.hid (M.pparse_none hs' hr)
      rw [hr] at C
      have C : Calls Tryd.prog 40 #[.string s] w fun e w' => e = .returned (.tuple #[.slice none 0 0, .bool false]) ∧ Below w.heap.size w w' := C
      clear hs' hr
      go_enter Tryd.func31, Tryd.ntmps31
      go_wp2_with fail
      refine C.mono ?_
      rintro e w1 ⟨rfl, hb1⟩
      go_wp2
      go_ret2
      exact made_of hf.out rfl Rd.nil_ hb1
    | some p =>
      have HS := Lib.hid hs'
      have HR := Lib.hid hr
      rw [hr] at C
      have C : Calls Tryd.prog 40 #[.string s] w fun e w' => (∃ A, e = .returned (.tuple #[.slice A p.length p.length, .bool true]) ∧ Rd w' A p) ∧ p.length ≤ 65537 ∧ Below w.heap.size w w' := C
      obtain ⟨x, hx⟩ : ∃ x, Hid (M.pck p = x) := ⟨_, rfl⟩
      obtain ⟨T, hT⟩ : ∃ T, Hid ((⟨(M.textV p).toArray⟩ : ByteArray) = T) := ⟨_, rfl⟩
      clear hs' hr
      by_cases hx0 : x = 0
      · subst hx0
        by_cases ht : T = s
        · subst ht
          have hf := Lib.hid (M.pparse_ok HS.out HR.out hx.out (by rw [← M.textV_ok hx.out, ← hT.out]))
          go_enter Tryd.func31, Tryd.ntmps31
          go_wp2_with fail
          refine C.mono ?_
          rintro e w1 ⟨⟨A, rfl, hr⟩, hl, hb1⟩
          have C2 := text_any A p.length p w1 (he.below hb1) hr
          rw [hx.out, hT.out] at C2
          go_wp2_with fail
          refine C2.mono ?_
          rintro e w2 ⟨rfl, hb2⟩
          go_wp2
          go_ret2
          exact made_of hf.out rfl (hr.below hb2) (below_next hb1 hb2)
        · have hf := Lib.hid (M.pparse_bad HS.out HR.out (by
            rintro ⟨_, h2⟩
            apply ht
            rw [← hT.out, M.textV_ok hx.out, h2]
            try exact (bytes_list rfl).symm))
          have hne : (T.toList == s.toList) = false := by
            rw [ByteArray.toList_eq, ByteArray.toList_eq, beq_eq_false_iff_ne]
            exact fun h => ht (M.bytes_eq h)
          go_enter Tryd.func31, Tryd.ntmps31
          go_wp2_with fail
          refine C.mono ?_
          rintro e w1 ⟨⟨A, rfl, hr⟩, hl, hb1⟩
          have C2 := text_any A p.length p w1 (he.below hb1) hr
          rw [hx.out, hT.out] at C2
          go_wp2_with fail
          refine C2.mono ?_
          rintro e w2 ⟨rfl, hb2⟩
          go_wp2
          go_ret2
          exact made_of hf.out rfl Rd.nil_ (below_next hb1 hb2)
      · have hf := Lib.hid (M.pparse_bad HS.out HR.out (by
          rintro ⟨h1, _⟩
          exact hx0 (by rw [← hx.out, h1])))
        have hne : (x != 0) = true := by simpa using hx0
        go_enter Tryd.func31, Tryd.ntmps31
        go_wp2_with fail
        refine C.mono ?_
        rintro e w1 ⟨⟨A, rfl, hr⟩, hl, hb1⟩
        have C2 := text_any A p.length p w1 (he.below hb1) hr
        rw [hx.out, hT.out] at C2
        go_wp2_with fail
        refine C2.mono ?_
        rintro e w2 ⟨rfl, hb2⟩
        go_wp2
        go_ret2
        exact made_of hf.out rfl Rd.nil_ (below_next hb1 hb2)
end Go.Proofs.YtnhibkkkpmaddaaDoor
