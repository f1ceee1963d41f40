/-
  The walk of the law WordsKnown.
-/
import Derived.Test.YtodjdfpealmjeaaDoorV6
import Derived.Test.YtodjdfpealmjeaaDoorL5
import Derived.Test.YtodjdfpealmjeaaDoorL4
namespace Go.Proofs.YtodjdfpealmjeaaDoor
open Go.RowKit

theorem rd_at {w : World} {g : Nat} (zs : List Int) (h : w.heap.size = g) : Rd (w.alloc (.cells (ints zs).toArray 3)) (some ⟨g, 0, none⟩) zs := h ▸ rd_lit w zs
theorem known_compare (A B C : Option Addr) (n ca : Nat) (zs : List Int) (w : World) (he : Env w) (ha : Rd w A zs) (hn : zs.length = n) (hb : Rd w B [0, 2]) (hc : Rd w C [2]) :
    Calls Tryd.prog 4 #[.slice A n ca, .slice B 2 2, .slice C 1 1] w (AllYes w) := by
  subst hn
  exact wordsCompare_walk A B C ca 2 1 zs [0, 2] [2] w he ha hb hc (by decide)
theorem known_concat (A B : Option Addr) (n ca : Nat) (zs : List Int) (w : World) (he : Env w) (ha : Rd w A zs) (hn : zs.length = n) (hb : Rd w B [1]) :
    Calls Tryd.prog 5 #[.slice A n ca, .slice B 1 1, .int .i64 3] w (AllYes w) := by
  subst hn
  exact wordsConcat_walk A B ca 1 zs [1] 3 w he ha hb
theorem known_text (A : Option Addr) (n c : Nat) (zs : List Int) (s : ByteArray) (w : World) (he : Env w) (ha : Rd w A zs) (hn : zs.length = n) (hv : M.I64 zs) :
    Calls Tryd.prog 9 #[.slice A n c, .string s, .int .i64 3] w (AllYes w) := by
  subst hn
  exact wordsText_walk A c zs s 3 w he ha hv
theorem known_check (A : Option Addr) (n c : Nat) (zs : List Int) (w : World) (he : Env w) (ha : Rd w A zs) (hn : zs.length = n) :
    Calls Tryd.prog 3 #[.slice A n c, .int .i64 1] w (AllYes w) := by
  subst hn
  exact wordsCheck_walk A c zs 1 w he ha

set_option maxRecDepth 100000 in
set_option maxHeartbeats 6400000 in
theorem wordsKnown_walk (w : World) (he : Env w) :
    Calls Tryd.prog 10 #[] w fun e w' => e = .returned (.bool true) ∧ Below w.heap.size w w' := by
  go_enter Tryd.func10, Tryd.ntmps10
  go_wp2_with fail
  go_loopw [1, 2] (fun v i wr => ∃ (k : Nat) (B : Option Addr) (n c : Nat), k ≤ 121 ∧ i = .int .i64 k ∧ v = .slice B n c ∧ Hid ((M.word 3 k).length = n) ∧ St w wr [(B, M.word 3 k)]) (fun _ i _ => 121 - (intOf i).toNat)
  case atStart => exact ⟨0, none, 0, 0, by decide, rfl, rfl, rfl, (St.start w).put Rd.nil_⟩
  case round =>
    obtain ⟨k, B, n, c, hk, rfl, rfl, hn, h0⟩ := hrel
    by_cases hlt : k < 121
    · obtain ⟨zs, hzs⟩ : ∃ zs, M.word 3 k = zs := ⟨_, rfl⟩
      obtain ⟨vz, rz⟩ := word_val (n := 3) (by decide) k
      have hsh := word3_short hlt
      have hnx := word3_next hlt
      rw [M.word] at hnx
      rw [hzs] at hn h0 vz rz hsh hnx
      have hck := M.check_mk (zs := zs) (n := 3) (by decide) (by decide) (by omega) vz
      have hv : M.I64 zs := fun z hz => by have := vz z hz; omega
      have hnw : M.word 3 (k + 1) = M.next 3 zs := by rw [M.word, hzs]
      obtain ⟨ys, hys⟩ : ∃ ys, M.next 3 zs = ys := ⟨_, rfl⟩
      rw [hys] at hnx hnw
      have HN := hn
      have ln : n ≤ 4 := by have := hn.out; omega
      have HCK := Lib.hid hck
      have HV := Lib.hid hv
      have HR := Lib.hid rz
      have HY := Lib.hid hys
      have HW := Lib.hid hnw
      have LY := Lib.hid hnx
      clear hck hv rz hys hnw hnx hzs vz hsh hn
      go_wp2_with fail
      refine (at_lit k 3 zs _ HCK.out HR.out (by omega)).mono ?_
      rintro e w1 ⟨B1, rfl, hr1, hb1⟩
      rw [HN.out]
      have h1 := (h0.next hb1).put hr1
      clear h0 hr1 hb1
      go_wp2_with fail
      refine (rank_lit B n c zs 3 k _ (h1.rd 1 rfl) HN.out HCK.out HR.out (by omega)).mono ?_
      rintro e w2 ⟨rfl, hb2⟩
      have h2 := h1.next hb2
      clear h1 hb2
      have hkk : ((k : Int) != k) = false := by simp
      go_wp2_with fail
      refine (word_lit B1 B n c zs 0 _ (h2.rd 0 rfl) (h2.rd 1 rfl) HN.out (by omega)).mono ?_
      rintro e w3 ⟨rfl, hb3⟩
      have h3 := h2.next hb3
      clear h2 hb3
      go_wp2_with fail
      refine (known_text B n c zs _ _ (h3.env he) (h3.rd 1 rfl) HN.out HV.out).mono ?_
      rintro e w4 ⟨rfl, hb4⟩
      have h4 := h3.next hb4
      clear h3 hb4
      go_wp2_with fail
      have h5 : St w ((w4.alloc (.cells #[.int .i64 0, .int .i64 2] 3)).alloc (.cells #[.int .i64 2] 3)) [(some ⟨w4.heap.size + 1, 0, none⟩, [2]), (some ⟨w4.heap.size, 0, none⟩, [0, 2]), (B1, zs), (B, zs)] :=
        (((h4.alloc _).put (rd_at [0, 2] rfl)).alloc _).put (rd_at [2] (by simp))
      clear h4
      obtain ⟨w5, hw5⟩ : ∃ w5, (w4.alloc (.cells #[.int .i64 0, .int .i64 2] 3)).alloc (.cells #[.int .i64 2] 3) = w5 := ⟨_, rfl⟩
      rw [hw5] at h5 ⊢
      clear hw5
      refine (known_compare B _ _ n c zs _ (h5.env he) (h5.rd 3 rfl) HN.out (h5.rd 1 rfl) (h5.rd 0 rfl)).mono ?_
      rintro e w6 ⟨rfl, hb6⟩
      have h6 := h5.next hb6
      clear h5 hb6
      go_wp2_with fail
      have h7 : St w (w6.alloc (.cells #[.int .i64 1] 3)) ((some ⟨w6.heap.size, 0, none⟩, [1]) :: [(some ⟨w4.heap.size + 1, 0, none⟩, [2]), (some ⟨w4.heap.size, 0, none⟩, [0, 2]), (B1, zs), (B, zs)]) :=
        (h6.alloc _).put (rd_at [1] rfl)
      clear h6
      refine (known_concat B _ n c zs _ (h7.env he) (h7.rd 4 rfl) HN.out (h7.rd 0 rfl)).mono ?_
      rintro e w8 ⟨rfl, hb8⟩
      have h8 := h7.next hb8
      clear h7 hb8
      go_wp2_with fail
      refine (next_at B n c zs ys 3 _ (h8.rd 4 rfl) HN.out HCK.out HY.out LY.out).mono ?_
      rintro e w9 ⟨B9, m9, rfl, hm9, _, hr9, hb9⟩
      have h9 := St.put (show St w w9 [] from ⟨(h8.next hb9).1, fun _ h => by cases h⟩) hr9
      clear h8 hb9 hr9
      go_wp2_with fail
      go_roundw
      case rel => exact ⟨k + 1, B9, m9, m9, by omega, by go_num, rfl, by rw [HW.out]; exact hm9, by rw [HW.out]; exact h9⟩
      case measure => simp [intOf]; omega
    · obtain rfl : k = 121 := by omega
      have h1 : St w wr [] := ⟨h0.1, fun _ h => by cases h⟩
      clear h0 hn
      go_wp2_with fail
      refine (all_a _ (h1.env he)).mono ?_
      rintro e w1 ⟨rfl, hb1⟩
      have h2 := h1.next hb1
      clear h1 hb1
      go_wp2_with fail
      refine (all_b _ (h2.env he)).mono ?_
      rintro e w2 ⟨rfl, hb2⟩
      have h3 := h2.next hb2
      clear h2 hb2
      go_wp2_with fail
      refine (all_c _ (h3.env he)).mono ?_
      rintro e w3 ⟨rfl, hb3⟩
      have h4 := h3.next hb3
      clear h3 hb3
      go_wp2_with fail
      refine (all_d _ (h4.env he)).mono ?_
      rintro e w4 ⟨rfl, hb4⟩
      have h5 := h4.next hb4
      clear h4 hb4
      go_wp2_with fail
      refine (times_lit 257 0 257 _ rfl (by decide)).mono ?_
      rintro e w5 ⟨B5, c5, rfl, hr5, _, hb5⟩
      have h6 := (h5.next hb5).put hr5
      clear h5 hb5 hr5
      go_wp2_with fail
      refine (known_check B5 257 c5 (M.reps 257 0) _ (h6.env he) (h6.rd 0 rfl) (by unfold M.reps; rw [List.length_replicate])).mono ?_
      rintro e w6 ⟨rfl, hb6⟩
      have h7 := h6.next hb6
      clear h6 hb6
      go_wp2_with fail
      refine (times_lit 256 0 256 _ rfl (by decide)).mono ?_
      rintro e w7 ⟨B7, c7, rfl, hr7, _, hb7⟩
      have h8 := (h7.next hb7).put hr7
      clear h7 hb7 hr7
      go_wp2_with fail
      refine (known_check B7 256 c7 (M.reps 256 0) _ (h8.env he) (h8.rd 0 rfl) (by unfold M.reps; rw [List.length_replicate])).mono ?_
      rintro e w8 ⟨rfl, hb8⟩
      have h9 := h8.next hb8
      clear h8 hb8
      go_wp2_with fail
      refine (wordsRaw_walk _ _ _ (h9.env he)).mono ?_
      rintro e w9 ⟨rfl, hb9⟩
      have h10 := h9.next hb9
      clear h9 hb9
      go_wp2_with fail
      refine (wordsRaw_walk _ _ _ (h10.env he)).mono ?_
      rintro e w10 ⟨rfl, hb10⟩
      have h11 := h10.next hb10
      clear h10 hb10
      go_wp2_with fail
      refine (wordsRaw_walk _ _ _ (h11.env he)).mono ?_
      rintro e w11 ⟨rfl, hb11⟩
      have h12 := h11.next hb11
      clear h11 hb11
      go_wp2_with fail
      refine (lives_any _ (h12.env he)).mono ?_
      rintro e w12 ⟨rfl, hb12⟩
      have h13 := h12.next hb12
      go_wp2
      go_ret
      exact ⟨rfl, h13.1⟩
end Go.Proofs.YtodjdfpealmjeaaDoor
