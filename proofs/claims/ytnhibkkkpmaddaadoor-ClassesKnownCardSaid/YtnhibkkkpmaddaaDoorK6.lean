/-
  The walk of the law ClassesText.
-/
import Derived.Test.YtnhibkkkpmaddaaDoorK4
namespace Go.Proofs.YtnhibkkkpmaddaaDoor
open Go.RowKit

namespace M
theorem text_small {p : List Int} (hl : p.length ≤ 14) : (textP p).length ≤ 65536 := by
  unfold textP
  split
  · simp
  · have hc := cnt_le p
    have := join_bound ((List.range (cnt p)).map (rowT p)) bar 400 (by
      intro q hq
      obtain ⟨b, _, rfl⟩ := List.mem_map.1 hq
      have h3 := jlen _ (blk_i64 (p := p) (by omega) b)
      have h4 := blkN_le p b p.length
      rw [blkN_done] at h4
      unfold rowT
      omega)
    rw [List.length_map, List.length_range] at this
    have e3 : bar.length = 3 := rfl
    rw [e3] at this
    omega
theorem pparse_two {s : List UInt8} (h : ¬ 65536 < s.length) : pparse s = ([], 4) ∨ ∃ p, pparse s = (p, 0) ∧ pck p = 0 ∧ textP p = s := by
  cases hr : readL s with
  | none => exact .inl (pparse_none h hr)
  | some p =>
    by_cases h2 : pck p = 0 ∧ textP p = s
    · exact .inr ⟨p, pparse_ok h hr h2.1 h2.2, h2⟩
    · exact .inl (pparse_bad h hr h2)
end M
theorem rtext_lit (A : Option Addr) (n c : Nat) (p : List Int) (b : ByteArray) (w : World) (h : Rd w A p) (hn : p.length = n) (hv : M.Vd p) (hl : n ≤ 256) (hb : (⟨(M.textP p).toArray⟩ : ByteArray) = b) :
    Calls Tryd.prog 32 #[.slice A n c] w fun e w' => e = .returned (.string b) ∧ Below w.heap.size w w' := by
  subst hn hb
  exact rtext_any A c p w h hv hl
theorem rcheck_lit (A : Option Addr) (n c : Nat) (p : List Int) (w : World) (h : Rd w A p) (hn : p.length = n) (hp : M.pck p = 0) :
    Calls Tryd.prog 10 #[.slice A n c] w fun e w' => e = .returned (.int .i64 0) ∧ Below w.heap.size w w' := by
  subst hn
  exact rcheck_is A c p 0 w h hp

set_option maxRecDepth 100000 in
set_option maxHeartbeats 4000000 in
theorem classesText_in (A : Option Addr) (ca : Nat) (xs : List Int) (s : ByteArray) (w : World) (he : Env w) (hx : Rd8 w A xs) (hmx : xs.length ≤ 9223372036854775807) (hs : s.size ≤ 2000) :
    Calls Tryd.prog 8 #[.agg #[.slice A xs.length ca], .string s] w fun e w' => e = .returned (.bool true) ∧ Below w.heap.size w w' := by
  obtain ⟨n, hn⟩ : ∃ n, Hid (min xs.length 14 = n) := ⟨_, rfl⟩
  have hn14 : n ≤ 14 := by have := hn.out; omega
  obtain ⟨P, hP⟩ : ∃ P, Hid (M.ofL (M.pad xs n) = P) := ⟨_, rfl⟩
  have hPl : Hid (P.length = n) := by rw [Hid, ← hP.out, M.ofL_len, M.pad_len]
  have hPv : Hid (M.Vd P) := by rw [Hid, ← hP.out]; exact M.Vd.of_ _
  have hP0 : Hid (M.pck P = 0) := M.pck_ok (by have := hPl.out; omega) hPv.out
  obtain ⟨S, hS⟩ : ∃ S, Hid ((⟨(M.textP P).toArray⟩ : ByteArray) = S) := ⟨_, rfl⟩
  have hSp : Hid (M.pparse S.data.toList = (P, 0)) := by
    rw [Hid, ← hS.out]
    exact M.parse_text hP0.out (M.text_small (by have := hPl.out; omega))
  have hcs := M.pparse_two (s := s.data.toList) (by rw [len_byte']; omega)
  obtain ⟨mx, hmx2⟩ : ∃ mx, Hid (xs.length = mx) := ⟨_, rfl⟩
  rw [hmx2.out] at hmx hn ⊢
  have q1 : (w.alloc (.cells #[.slice A mx ca] 50)).cell? ⟨w.heap.size, 0, none⟩ = some (.slice A mx ca) := by
    rw [World.cell?_alloc_at _ _ _ _ rfl]; rfl
  have q3 : Below w.heap.size w (w.alloc (.cells #[.slice A mx ca] 50)) := (Below.refl _ _).alloc (Nat.le_refl _) _
  have q4 : w.heap.size + 1 ≤ (w.alloc (.cells #[.slice A mx ca] 50)).heap.size := by simp
  go_enter Tryd.func8, Tryd.ntmps8
  go_wp2_with fail
  obtain ⟨w0, hw0⟩ : ∃ w0, w.alloc (.cells #[.slice A mx ca] 50) = w0 := ⟨_, rfl⟩
  rw [hw0] at q1 q3 q4 ⊢
  clear hw0
  have q5 : Below w.heap.size w w0.drew := q3.drew
  have e0 : w0.drew.heap.size = w0.heap.size := rfl
  go_region_held3 (fun w' => w'.cell? ⟨w.heap.size, 0, none⟩ = some (.slice A mx ca)) (first | exact g1 | exact e1 | go_keep)
    (first
      | (go_at_call 25
         (with_reducible refine (psize_lit A mx ca n _ hmx hn.out).mono ?_)
         rintro e w1 ⟨rfl, hb1⟩
         have z1 := hb1.size
         have g1 : w1.cell? ⟨w.heap.size, 0, none⟩ = some (.slice A mx ca) := (hb1.cell (p := ⟨w.heap.size, 0, none⟩) (by show w.heap.size < w0.heap.size; omega)).trans q1
         have q6 := below_next q5 hb1
         have X1 := Lib.hid (hx.below q6))
      | (go_at_call 26
         (with_reducible refine (pof_lit A mx ca xs n P _ X1.out hmx2.out (by omega) hP.out).mono ?_)
         rintro e w2 ⟨B1, d1, rfl, hr2, hb2⟩
         have e1 : w2.cell? ⟨w.heap.size, 0, none⟩ = some (.slice A mx ca) := (hb2.cell (p := ⟨w.heap.size, 0, none⟩) (by show w.heap.size < w1.heap.size; omega)).trans g1))
  have s2 : St w w2 [(B1, P)] := St.put (show St w w2 [] from ⟨below_next q6 hb2, fun _ h => by cases h⟩) hr2
  clear q1 q3 q4 q5 q6 X1 hr2 hb1 hb2 g1 e1 z1 e0 hx
  go_wp2_with fail
  refine (text_lit B1 n d1 P S _ (s2.env he) (s2.rd 0 rfl) hPl.out hP0.out hS.out).mono ?_
  rintro e w3 ⟨rfl, hb3⟩
  have s3 := s2.next hb3
  clear s2 hb3
  go_wp2_with fail
  refine (parse_lit S P 0 _ (s3.env he) hSp.out).mono ?_
  rintro e w4 ⟨C4, rfl, hr4, hb4⟩
  have s4 := (s3.next hb4).put hr4
  rw [hPl.out]
  clear s3 hb4 hr4
  go_wp2_with fail
  refine (rtext_lit B1 n d1 P S _ (s4.rd 1 rfl) hPl.out hPv.out (by omega) hS.out).mono ?_
  rintro e w5 ⟨rfl, hb5⟩
  have s5 := s4.next hb5
  clear s4 hb5
  go_wp2_with fail
  refine (list_eq C4 B1 n d1 P 0 _ (s5.rd 0 rfl) (s5.rd 1 rfl) hPl.out (by omega)).mono ?_
  rintro e w6 ⟨rfl, hb6⟩
  have s6 := s5.next hb6
  clear s5 hb6
  rcases hcs with hf | ⟨p', hf, hp0, ht⟩
  · have HF := Lib.hid hf
    clear hf
    go_wp2_with fail
    refine (parse_lit s [] 4 _ (s6.env he) HF.out).mono ?_
    rintro e w7 ⟨C7, rfl, _, hb7⟩
    have s7 := s6.next hb7
    clear s6 hb7
    go_wp2_with fail
    refine (list_nil C7 4 _).mono ?_
    rintro e w8 ⟨rfl, hb8⟩
    have s8 := s7.next hb8
    clear s7 hb8
    go_wp2_with fail
    refine (lives_any _ (s8.env he)).mono ?_
    rintro e w9 ⟨rfl, hb9⟩
    have s9 := s8.next hb9
    go_wp2
    go_ret
    exact ⟨rfl, s9.1⟩
  · have HF := Lib.hid hf
    have H0 := Lib.hid hp0
    obtain ⟨n2, hn2⟩ : ∃ n2, Hid (p'.length = n2) := ⟨_, rfl⟩
    have hv2 := Lib.hid (M.pck_zero hp0).2
    have hl2 : n2 ≤ 256 := by have := (M.pck_zero hp0).1; have := hn2.out; omega
    have HTs : Hid ((⟨(M.textP p').toArray⟩ : ByteArray) = s) := by rw [Hid, ht]; try exact (bytes_list rfl).symm
    clear hf hp0 ht
    go_wp2_with fail
    refine (parse_lit s p' 0 _ (s6.env he) HF.out).mono ?_
    rintro e w7 ⟨C7, rfl, hr7, hb7⟩
    have s7 := (s6.next hb7).put hr7
    rw [hn2.out]
    clear s6 hb7 hr7
    go_wp2_with fail
    refine (rcheck_lit C7 n2 n2 p' _ (s7.rd 0 rfl) hn2.out H0.out).mono ?_
    rintro e w8 ⟨rfl, hb8⟩
    have s8 := s7.next hb8
    clear s7 hb8
    go_wp2_with fail
    refine (rtext_lit C7 n2 n2 p' s _ (s8.rd 0 rfl) hn2.out hv2.out hl2 HTs.out).mono ?_
    rintro e w9 ⟨rfl, hb9⟩
    have s9 := s8.next hb9
    clear s8 hb9
    go_wp2_with fail
    refine (lives_any _ (s9.env he)).mono ?_
    rintro e w10 ⟨rfl, hb10⟩
    have s10 := s9.next hb10
    go_wp2
    go_ret
    exact ⟨rfl, s10.1⟩

theorem classesText_walk (A : Option Addr) (ca : Nat) (xs : List Int) (s : ByteArray) (w : World) (he : Env w) (hx : Rd8 w A xs) (hmx : xs.length ≤ 9223372036854775807) :
    Calls Tryd.prog 8 #[.agg #[.slice A xs.length ca], .string s] w fun e w' => e = .returned (.bool true) ∧ Below w.heap.size w w' := by
  by_cases hs : s.size ≤ 2000
  · exact classesText_in A ca xs s w he hx hmx hs
  · have h1 : (2000 : Int) < s.size := by omega
    go_enter Tryd.func8, Tryd.ntmps8
    go_wp2
    go_ret
    exact ⟨rfl, (Below.refl _ _).alloc (Nat.le_refl _) _⟩
end Go.Proofs.YtnhibkkkpmaddaaDoor
