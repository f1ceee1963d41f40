/-
  The walk of the law WordsText.
-/
import Derived.Test.YtodjdfpealmjeaaDoorL3
import Derived.Test.YtodjdfpealmjeaaDoorW13
namespace Go.Proofs.YtodjdfpealmjeaaDoor
open Go.RowKit

theorem rparse_dash (s : ByteArray) (w : World) (hd : s.data.toList = [45]) :
    Calls Tryd.prog 31 #[.string s] w (Rp w s.data.toList) := by
  have hs : s = ⟨#[45]⟩ := by
    obtain ⟨⟨l⟩⟩ := s
    simp at hd
    subst hd
    rfl
  subst hs
  go_enter Tryd.func31, Tryd.ntmps31
  go_wp2
  go_ret2
  exact ⟨none, 0, rfl, Rd.nil_, Below.refl _ _⟩
theorem rparse_lit (s : ByteArray) (xs : List Int) (k : Int) (w : World) (hs : s.size ≤ 65536) (hx : M.listV s.data.toList = xs) (hk : M.okI s.data.toList = k) :
    Calls Tryd.prog 31 #[.string s] w fun e w' => ∃ A m c, e = .returned (.tuple #[.slice A m c, .int .i64 k]) ∧ Hid (xs.length = m) ∧ Rd w' A xs ∧ Below w.heap.size w w' := by
  subst hx hk
  have h : Calls Tryd.prog 31 #[.string s] w (Rp w s.data.toList) := by
    by_cases h : s.data.toList = [45]
    · exact rparse_dash s w h
    · exact rparse_loop s w hs h
  refine h.mono ?_
  rintro e w' ⟨A, c, rfl, h1, h2⟩
  exact ⟨A, _, c, rfl, rfl, h1, h2⟩
theorem parse_at (s : ByteArray) (i f : Int) (zs : List Int) (w : World) (he : Env w) (hs : s.size ≤ 65536) (hf : M.parseE s.data.toList i = f) (hv : M.parseV s.data.toList i = zs) :
    Calls Tryd.prog 30 #[.string s, .int .i64 i] w fun e w' => ∃ B m, e = .returned (.tuple #[.slice B m m, .int .i64 f]) ∧ Hid (zs.length = m) ∧ Rd w' B zs ∧ Below w.heap.size w w' := by
  refine (parse_lit s i f zs w he hs hf hv).mono ?_
  rintro e w' ⟨B, rfl, h1, h2⟩
  exact ⟨B, _, rfl, rfl, h1, h2⟩
theorem rtext_lit (A : Option Addr) (n c : Nat) (zs : List Int) (w : World) (h : Rd w A zs) (hn : zs.length = n) (hv : M.I64 zs) (hl : n ≤ 100000) (b : ByteArray) (hb : (⟨(M.textL zs).toArray⟩ : ByteArray) = b) :
    Calls Tryd.prog 29 #[.slice A n c] w fun e w' => e = .returned (.string b) ∧ Below w.heap.size w w' := by
  subst hn hb
  exact rtext_any A c zs w h hv hl

set_option maxRecDepth 100000 in
set_option maxHeartbeats 3200000 in
theorem wordsText_main (A : Option Addr) (c : Nat) (zs : List Int) (s : ByteArray) (n : Int) (w : World) (he : Env w) (hr : Rd w A zs) (hv : M.I64 zs) (hl : zs.length ≤ 300) (hs : s.size ≤ 2000) :
    Calls Tryd.prog 9 #[.slice A zs.length c, .string s, .int .i64 n] w fun e w' => e = .returned (.bool true) ∧ Below w.heap.size w w' := by
  obtain ⟨t, ht⟩ : ∃ t : ByteArray, (⟨(M.textL zs).toArray⟩ : ByteArray) = t := ⟨_, rfl⟩
  have hts : t.size ≤ 65536 := by
    have := M.text_len hv
    rw [← ht, Lib.size_eq]
    show (M.textL zs).length ≤ _
    omega
  have HT := Lib.hid ht
  have htt : (t.toList != t.toList) = false := by simp
  have h0 := (St.start w).put hr
  clear ht hr
  go_enter Tryd.func9, Tryd.ntmps9
  go_wp2_with fail
  refine (text_lit _ _ _ zs t _ (h0.env he) (h0.rd 0 rfl) rfl hv (by omega) HT.out).mono ?_
  rintro e w1 ⟨rfl, hb1⟩
  have h1 := h0.next hb1
  clear h0 hb1
  go_wp2_with fail
  refine (rtext_lit _ _ _ zs _ (h1.rd 0 rfl) rfl hv (by omega) t HT.out).mono ?_
  rintro e w2 ⟨rfl, hb2⟩
  have h2 := h1.next hb2
  clear h1 hb2
  go_wp2
  have hbw := h2.1
  clear h2
  go_loopw [7, 8] (fun v i wr => ∃ (k : Nat) (b : ByteArray), k ≤ 2 ∧ i = .int .i64 k ∧ v = .string b ∧ b.size ≤ 65536 ∧ Below w.heap.size w wr) (fun _ i _ => 2 - (intOf i).toNat)
  case atStart => exact ⟨0, t, by omega, rfl, rfl, hts, hbw⟩
  case round =>
    obtain ⟨k, b, hk, rfl, rfl, hbs, hbr⟩ := hrel
    have h0 : St w wr [] := ⟨hbr, fun _ h => by cases h⟩
    have HS : s.size ≤ 65536 := by omega
    clear hbr hbw HT htt hts
    by_cases hlt : k < 2
    · by_cases hok : M.listOk b.data.toList = true
      · obtain ⟨q, hq⟩ : ∃ q, M.check (M.listV b.data.toList) n = q := ⟨_, rfl⟩
        by_cases hq0 : q = 0
        · subst hq0
          obtain ⟨e1, e2⟩ := M.parse_ok hok hq
          have E1 := Lib.hid e1
          have E2 := Lib.hid e2
          have HK := Lib.hid (M.okI_yes hok)
          have HQ := Lib.hid hq
          clear hok hq e1 e2
          go_wp2_with fail
          refine (parse_at b _ 0 (M.listV b.data.toList) _ (h0.env he) hbs E1.out E2.out).mono ?_
          rintro e w3 ⟨B, m, rfl, hm, hr3, hb3⟩
          have h3 := (h0.next hb3).put hr3
          clear h0 hr3 hb3
          go_wp2_with fail
          refine (rparse_lit b (M.listV b.data.toList) 1 _ hbs rfl HK.out).mono ?_
          rintro e w4 ⟨D, m2, dc, rfl, hm2, hr4, hb4⟩
          have h4 := (h3.next hb4).put hr4
          clear h3 hr4 hb4
          go_wp2_with fail
          refine (rcheck_lit _ _ _ (M.listV b.data.toList) _ 0 _ (h4.rd 0 rfl) hm2.out HQ.out).mono ?_
          rintro e w5 ⟨rfl, hb5⟩
          have h5 := h4.next hb5
          have hmb : m ≤ 1000000 := by
            rw [← hm.out]
            have := (M.check_zero HQ.out).2.2.1
            omega
          clear h4 hb5
          go_wp2_with fail
          refine (word_lit2 _ _ _ _ _ (M.listV b.data.toList) _ _ (h5.rd 1 rfl) (h5.rd 0 rfl) hm.out hm2.out hmb).mono ?_
          rintro e w6 ⟨rfl, hb6⟩
          have h6 := h5.next hb6
          clear h5 hb6
          go_wp2
          go_roundw
          case rel => exact ⟨k + 1, s, by omega, by go_num, rfl, HS, h6.1⟩
          case measure => simp [intOf]; omega
        · obtain ⟨e1, e2⟩ := M.parse_err hok hq hq0
          have E1 := Lib.hid e1
          have E2 := Lib.hid e2
          have HK := Lib.hid (M.okI_yes hok)
          have HQ := Lib.hid hq
          have hq1 : (q != 0) = true := by simpa using hq0
          have hq2 : (q == 0) = false := by simpa using hq0
          clear hok hq e1 e2 hq0
          go_wp2_with fail
          refine (parse_at b _ q [] _ (h0.env he) hbs E1.out E2.out).mono ?_
          rintro e w3 ⟨B, m, rfl, hm, hr3, hb3⟩
          obtain rfl : 0 = m := hm.out
          have h3 := (h0.next hb3).put hr3
          clear h0 hr3 hb3
          go_wp2_with fail
          refine (rparse_lit b (M.listV b.data.toList) 1 _ hbs rfl HK.out).mono ?_
          rintro e w4 ⟨D, m2, dc, rfl, hm2, hr4, hb4⟩
          have h4 := (h3.next hb4).put hr4
          clear h3 hr4 hb4
          go_wp2_with fail
          refine (rcheck_lit _ _ _ (M.listV b.data.toList) _ q _ (h4.rd 0 rfl) hm2.out HQ.out).mono ?_
          rintro e w5 ⟨rfl, hb5⟩
          have h5 := h4.next hb5
          clear h4 hb5
          go_wp2_with fail
          refine (word_lit2 _ _ _ _ _ [] _ _ (h5.rd 1 rfl) Rd.nil_ rfl rfl (by decide)).mono ?_
          rintro e w6 ⟨rfl, hb6⟩
          have h6 := h5.next hb6
          clear h5 hb6
          go_wp2
          go_roundw
          case rel => exact ⟨k + 1, s, by omega, by go_num, rfl, HS, h6.1⟩
          case measure => simp [intOf]; omega
      · have hok2 : M.listOk b.data.toList = false := by simpa using hok
        obtain ⟨e1, e2⟩ := M.parse_form (n := n) hok2
        have E1 := Lib.hid e1
        have E2 := Lib.hid e2
        have HK := Lib.hid (M.okI_no hok2)
        clear hok hok2 e1 e2
        go_wp2_with fail
        refine (parse_at b _ 4 [] _ (h0.env he) hbs E1.out E2.out).mono ?_
        rintro e w3 ⟨B, m, rfl, hm, hr3, hb3⟩
        obtain rfl : 0 = m := hm.out
        have h3 := (h0.next hb3).put hr3
        clear h0 hr3 hb3
        go_wp2_with fail
        refine (rparse_lit b (M.listV b.data.toList) 0 _ hbs rfl HK.out).mono ?_
        rintro e w4 ⟨D, m2, dc, rfl, hm2, hr4, hb4⟩
        have h4 := (h3.next hb4).put hr4
        clear h3 hr4 hb4
        go_wp2_with fail
        refine (word_lit2 _ _ _ _ _ [] _ _ (h4.rd 1 rfl) Rd.nil_ rfl rfl (by decide)).mono ?_
        rintro e w6 ⟨rfl, hb6⟩
        have h6 := h4.next hb6
        clear h4 hb6
        go_wp2
        go_roundw
        case rel => exact ⟨k + 1, s, by omega, by go_num, rfl, HS, h6.1⟩
        case measure => simp [intOf]; omega
    · obtain rfl : k = 2 := by omega
      go_wp2_with fail
      refine (lives_any _ (h0.env he)).mono ?_
      rintro e w3 ⟨rfl, hb3⟩
      have h3 := h0.next hb3
      go_wp2
      go_ret
      exact ⟨rfl, h3.1⟩

theorem wordsText_walk (A : Option Addr) (c : Nat) (zs : List Int) (s : ByteArray) (n : Int) (w : World) (he : Env w) (hr : Rd w A zs) (hv : M.I64 zs) :
    Calls Tryd.prog 9 #[.slice A zs.length c, .string s, .int .i64 n] w fun e w' => e = .returned (.bool true) ∧ Below w.heap.size w w' := by
  by_cases hl : zs.length ≤ 300
  · by_cases hs : s.size ≤ 2000
    · exact wordsText_main A c zs s n w he hr hv hl hs
    · go_enter Tryd.func9, Tryd.ntmps9
      go_wp2
      go_ret
      exact ⟨rfl, Below.refl _ _⟩
  · go_enter Tryd.func9, Tryd.ntmps9
    go_wp2
    go_ret
    exact ⟨rfl, Below.refl _ _⟩
end Go.Proofs.YtodjdfpealmjeaaDoor
