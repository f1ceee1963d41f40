/-
  Contracts: lives, the examples of the chapter.
-/
import Derived.Test.YtodjdfpealmjeaaDoorW4
import Derived.Test.YtodjdfpealmjeaaDoorW5
import Derived.Test.YtodjdfpealmjeaaDoorW7
import Derived.Test.YtodjdfpealmjeaaDoorW11
namespace Go.Proofs.YtodjdfpealmjeaaDoor
open Go.RowKit

/-- What is known on the way: below the start all is as it was; the lists that are still wanted. -/
def St (w w' : World) (L : List (Option Addr × List Int)) : Prop := Below w.heap.size w w' ∧ ∀ p ∈ L, Rd w' p.1 p.2
section
variable {w w1 w2 : World} {L : List (Option Addr × List Int)}
theorem St.start (w : World) : St w w [] := ⟨Below.refl _ _, fun _ h => by simp at h⟩
theorem St.next (h : St w w1 L) (hb : Below w1.heap.size w1 w2) : St w w2 L := ⟨below_next h.1 hb, fun p hp => (h.2 p hp).below hb⟩
theorem St.put (h : St w w1 L) {A : Option Addr} {zs : List Int} (hr : Rd w1 A zs) : St w w1 ((A, zs) :: L) := ⟨h.1, fun p hp => by
  rcases List.mem_cons.1 hp with rfl | h1
  · exact hr
  · exact h.2 p h1⟩
theorem St.alloc (h : St w w1 L) (o : Obj) : St w (w1.alloc o) L := h.next ((Below.refl _ _).alloc (Nat.le_refl _) o)
theorem St.env (h : St w w1 L) (he : Env w) : Env w1 := he.below h.1
theorem St.rd (h : St w w1 L) {A : Option Addr} {zs : List Int} (i : Nat) (hi : L[i]? = some (A, zs)) : Rd w1 A zs := h.2 (A, zs) (List.mem_of_getElem? hi)
end
theorem rd_lit (w : World) (zs : List Int) : Rd (w.alloc (.cells (ints zs).toArray 3)) (some ⟨w.heap.size, 0, none⟩) zs := Rd.of_block (heap_alloc_new w _)

/-- A call that checks nothing but hands a list back. -/
theorem Made.out {w w' : World} {zs : List Int} {f : Int} {e : Ending} (h : Made w zs f e w') : ∃ A, e = .returned (.tuple #[.slice A zs.length zs.length, .int .i64 f]) ∧ Rd w' A zs ∧ Below w.heap.size w w' := h

theorem next_lit (A : Option Addr) (n c : Nat) (zs ys : List Int) (i : Int) (w : World) (h : Rd w A zs) (hn : zs.length = n) (hck : M.check zs i = 0) (hy : M.next i zs = ys) (hl : ys.length ≤ 256) :
    Calls Tryd.prog 16 #[.slice A n c, .int .i64 i] w fun e w' => ∃ B, e = .returned (.tuple #[.slice B ys.length ys.length, .int .i64 0]) ∧ Rd w' B ys ∧ Below w.heap.size w w' := by
  subst hn hy
  exact next_ok A c zs i w h hck hl
theorem next_over (A : Option Addr) (n c : Nat) (zs : List Int) (i : Int) (w : World) (h : Rd w A zs) (hn : zs.length = n) (hck : M.check zs i = 0) (hl : 256 < (M.next i zs).length) :
    Calls Tryd.prog 16 #[.slice A n c, .int .i64 i] w fun e w' => ∃ B, e = .returned (.tuple #[.slice B 0 0, .int .i64 3]) ∧ Rd w' B [] ∧ Below w.heap.size w w' := by
  subst hn
  exact next_last A c zs i w h hck hl

/-- So many equal symbols. -/
def M.reps (n : Nat) (s : Int) : List Int := List.replicate n s
theorem times_lit (N s : Int) (n : Nat) (w : World) (hN : N = (n : Int)) (hn : n ≤ 65536) :
    Calls Tryd.prog 24 #[.int .i64 N, .int .i64 s] w fun e w' => ∃ A c, e = .returned (.slice A n c) ∧ Rd w' A (M.reps n s) ∧ n ≤ c ∧ Below w.heap.size w w' := by
  subst hN
  refine (times_any n s w hn).mono ?_
  rintro e w' ⟨A, c, rfl, hr, hc, hb⟩
  rw [List.length_replicate] at hc ⊢
  exact ⟨A, c, rfl, hr, hc, hb⟩
theorem cmp_lit (A B : Option Addr) (n m c d : Nat) (x y : List Int) (r : Int) (w : World) (hx : Rd w A x) (hy : Rd w B y) (hn : x.length = n) (hm : y.length = m) (hb : n ≤ 1000000) (hr : M.cmp x y = r) :
    Calls Tryd.prog 18 #[.slice A n c, .slice B m d] w fun e w' => e = .returned (.int .i64 r) ∧ Below w.heap.size w w' := by
  subst hn hm hr
  exact wcmp_any A B c d x y w hx hy (by omega)
theorem pre_lit (A B : Option Addr) (n m c d : Nat) (x y : List Int) (r : Bool) (w : World) (hx : Rd w A x) (hy : Rd w B y) (hn : x.length = n) (hm : y.length = m) (hb : n ≤ 1000000) (hd : m ≤ d) (hr : M.pre x y = r) :
    Calls Tryd.prog 20 #[.slice A n c, .slice B m d] w fun e w' => e = .returned (.bool r) ∧ Below w.heap.size w w' := by
  subst hn hm hr
  exact wpre_any A B c d x y w hx hy (by omega) hd
theorem word_lit (A B : Option Addr) (n d : Nat) (x : List Int) (f : Int) (w : World) (hx : Rd w A x) (hy : Rd w B x) (hn : x.length = n) (hm : n ≤ 1000000) :
    Calls Tryd.prog 14 #[.slice A n n, .int .i64 f, .slice B n d, .int .i64 f] w fun e w' => e = .returned (.bool true) ∧ Below w.heap.size w w' := word_yes A B n d x f w hx hy hn (by omega)
theorem rank_lit (A : Option Addr) (n c : Nat) (zs : List Int) (i r : Int) (w : World) (h : Rd w A zs) (hn : zs.length = n) (hck : M.check zs i = 0) (hr : M.rk i zs = r) (hm : r ≤ 4611686018427387903) :
    Calls Tryd.prog 17 #[.slice A n c, .int .i64 i] w fun e w' => e = .returned (.tuple #[.int .i64 r, .int .i64 0]) ∧ Below w.heap.size w w' := by
  subst hn
  obtain ⟨h1, h2⟩ := M.rankV_ok (n := i) (zs := zs) (by omega)
  have := rank_loop A c zs i w h hck
  rwa [h1, h2, hr] at this
theorem rank_over (A : Option Addr) (n c : Nat) (zs : List Int) (i : Int) (w : World) (h : Rd w A zs) (hn : zs.length = n) (hck : M.check zs i = 0) (hm : ¬ M.rk i zs ≤ 4611686018427387903) :
    Calls Tryd.prog 17 #[.slice A n c, .int .i64 i] w fun e w' => e = .returned (.tuple #[.int .i64 0, .int .i64 3]) ∧ Below w.heap.size w w' := by
  subst hn
  obtain ⟨h1, h2⟩ := M.rankV_no hm
  have := rank_loop A c zs i w h hck
  rwa [h1, h2] at this
theorem at_lit (r i : Int) (zs : List Int) (w : World) (hck : M.check zs i = 0) (hr : M.rk i zs = r) (hm : r ≤ 4611686018427387903) :
    Calls Tryd.prog 27 #[.int .i64 r, .int .i64 i] w fun e w' => ∃ B, e = .returned (.tuple #[.slice B zs.length zs.length, .int .i64 0]) ∧ Rd w' B zs ∧ Below w.heap.size w w' := by
  subst hr
  exact at_ok zs i w hck hm
theorem parse_lit (s : ByteArray) (i f : Int) (zs : List Int) (w : World) (he : Env w) (hs : s.size ≤ 65536) (hf : M.parseE s.data.toList i = f) (hv : M.parseV s.data.toList i = zs) :
    Calls Tryd.prog 30 #[.string s, .int .i64 i] w fun e w' => ∃ B, e = .returned (.tuple #[.slice B zs.length zs.length, .int .i64 f]) ∧ Rd w' B zs ∧ Below w.heap.size w w' := by
  subst hf hv
  exact parse_any s i w he hs
theorem text_lit (A : Option Addr) (n c : Nat) (zs : List Int) (b : ByteArray) (w : World) (he : Env w) (h : Rd w A zs) (hn : zs.length = n) (hv : M.I64 zs) (hl : n ≤ 100000) (hb : (⟨(M.textL zs).toArray⟩ : ByteArray) = b) :
    Calls Tryd.prog 28 #[.slice A n c] w fun e w' => e = .returned (.string b) ∧ Below w.heap.size w w' := by
  subst hn hb
  exact text_any A c zs w he h hv hl
theorem text_ten : (⟨(M.textL [0, 10, 2]).toArray⟩ : ByteArray) = ⟨#[48, 32, 49, 48, 32, 50]⟩ := by
  simp [M.textL, Lib.join, Lib.itoa, Lib.decDigits, List.intercalate, List.intersperse]
theorem rd_fst (w : World) (zs : List Int) (o : Obj) : Rd ((w.alloc (.cells (ints zs).toArray 3)).alloc o) (some ⟨w.heap.size, 0, none⟩) zs := (rd_lit w zs).alloc o
theorem rd_snd (w : World) (zs : List Int) (o : Obj) : Rd ((w.alloc o).alloc (.cells (ints zs).toArray 3)) (some ⟨w.heap.size + 1, 0, none⟩) zs := by
  have := rd_lit (w.alloc o) zs
  simpa using this
theorem St.two {w w1 w2 : World} {L : List (Option Addr × List Int)} (h : St w w1 L) {o1 o2 : Obj} (hb : Below ((w1.alloc o1).alloc o2).heap.size ((w1.alloc o1).alloc o2) w2) : St w w2 L := ((h.alloc o1).alloc o2).next hb
theorem St.one {w w1 w2 : World} {L : List (Option Addr × List Int)} (h : St w w1 L) {o1 : Obj} (hb : Below (w1.alloc o1).heap.size (w1.alloc o1) w2) : St w w2 L := (h.alloc o1).next hb

set_option maxRecDepth 100000 in
set_option maxHeartbeats 1600000 in
theorem lives_any (w : World) (he : Env w) : Calls Tryd.prog 15 #[] w fun e w' => e = .returned (.bool true) ∧ Below w.heap.size w w' := by
  have h0 := St.start w
  go_enter Tryd.func15, Tryd.ntmps15
  go_wp2_with fail
  refine (next_lit _ _ _ [0, 1] [1, 0] _ _ (rd_lit w [0, 1]) rfl (by decide) (by decide) (by decide)).mono ?_
  rintro e w1 ⟨A1, rfl, hr1, hb1⟩
  have h1 := ((h0.alloc _).next hb1).put hr1
  clear h0 hr1 hb1
  go_wp2_with fail
  refine (next_lit _ _ _ [1, 1] [0, 0, 0] _ _ (rd_lit w1 [1, 1]) rfl (by decide) (by decide) (by decide)).mono ?_
  rintro e w2 ⟨A2, rfl, hr2, hb2⟩
  have h2 := ((h1.alloc _).next hb2).put hr2
  clear h1 hr2 hb2
  go_wp2_with fail
  refine (times_lit 256 0 256 _ rfl (by decide)).mono ?_
  rintro e w3 ⟨A3, c3, rfl, hr3, hc3, hb3⟩
  have h3 := (h2.next hb3).put hr3
  clear h2 hr3 hb3
  go_wp2_with fail
  refine (next_over _ _ _ (M.reps 256 0) _ _ (h3.rd 0 rfl) (by decide) (by decide +kernel) (by decide +kernel)).mono ?_
  rintro e w4 ⟨A4, rfl, hr4, hb4⟩
  have h4 := (h3.next hb4).put hr4
  clear h3 hr4 hb4
  go_wp2_with fail
  refine (cmp_lit _ _ _ _ _ _ [1] [0, 0] (-1) _ (rd_fst w4 [1] _) (rd_snd w4 [0, 0] _) rfl rfl (by decide) (by decide)).mono ?_
  rintro e w5 ⟨rfl, hb5⟩
  have h5 := h4.two hb5
  clear h4 hb5
  go_wp2_with fail
  refine (cmp_lit _ _ _ _ _ _ [0, 1] [0, 0] 1 _ (rd_fst w5 [0, 1] _) (rd_snd w5 [0, 0] _) rfl rfl (by decide) (by decide)).mono ?_
  rintro e w6 ⟨rfl, hb6⟩
  have h6 := h5.two hb6
  clear h5 hb6
  go_wp2_with fail
  refine (pre_lit _ _ _ _ _ _ [0] [0, 1] true _ (rd_fst w6 [0] _) (rd_snd w6 [0, 1] _) rfl rfl (by decide) (by decide) (by decide)).mono ?_
  rintro e w7 ⟨rfl, hb7⟩
  have h7 := h6.two hb7
  clear h6 hb7
  go_wp2_with fail
  refine (pre_lit _ _ _ _ _ _ [0, 1] [0] false _ (rd_fst w7 [0, 1] _) (rd_snd w7 [0] _) rfl rfl (by decide) (by decide) (by decide)).mono ?_
  rintro e w8 ⟨rfl, hb8⟩
  have h8 := h7.two hb8
  clear h7 hb8
  go_wp2_with fail
  refine (word_lit _ _ _ _ [1, 0] _ _ ((h8.alloc _).rd 3 rfl) (rd_lit w8 [1, 0]) rfl (by decide)).mono ?_
  rintro e w9 ⟨rfl, hb9⟩
  have h9 := h8.one hb9
  clear h8 hb9
  go_wp2_with fail
  refine (word_lit _ _ _ _ [0, 0, 0] _ _ ((h9.alloc _).rd 2 rfl) (rd_lit w9 [0, 0, 0]) rfl (by decide)).mono ?_
  rintro e w10 ⟨rfl, hb10⟩
  have h10 := h9.one hb10
  clear h9 hb10
  go_wp2_with fail
  refine (word_lit _ _ _ _ [] _ _ (h10.rd 0 rfl) Rd.nil_ rfl (by decide)).mono ?_
  rintro e w11 ⟨rfl, hb11⟩
  have h11 := h10.next hb11
  clear h10 hb11
  go_wp2_with fail
  refine (rank_lit _ _ _ [1, 0, 1] _ 12 _ (rd_lit w11 [1, 0, 1]) rfl (by decide) (by decide) (by decide)).mono ?_
  rintro e w12 ⟨rfl, hb12⟩
  have h12 := h11.one hb12
  clear h11 hb12
  go_wp2_with fail
  refine (times_lit 62 1 62 _ rfl (by decide)).mono ?_
  rintro e w13 ⟨A13, c13, rfl, hr13, hc13, hb13⟩
  have h13 := (h12.next hb13).put hr13
  clear h12 hr13 hb13
  go_wp2_with fail
  refine (rank_over _ _ _ (M.reps 62 1) _ _ (h13.rd 0 rfl) (by decide) (by decide +kernel) (by decide +kernel)).mono ?_
  rintro e w14 ⟨rfl, hb14⟩
  have h14 := h13.next hb14
  clear h13 hb14
  go_wp2_with fail
  refine (times_lit 61 1 61 _ rfl (by decide)).mono ?_
  rintro e w15 ⟨A15, c15, rfl, hr15, hc15, hb15⟩
  have h15 := (h14.next hb15).put hr15
  clear h14 hr15 hb15
  go_wp2_with fail
  refine (rank_lit _ _ _ (M.reps 61 1) _ 4611686018427387902 _ (h15.rd 0 rfl) (by decide) (by decide +kernel) (by decide +kernel) (by decide)).mono ?_
  rintro e w16 ⟨rfl, hb16⟩
  have h16 := h15.next hb16
  clear h15 hb16
  go_wp2_with fail
  refine (at_lit 12 2 [1, 0, 1] _ (by decide) (by decide) (by decide)).mono ?_
  rintro e w17 ⟨A17, rfl, hr17, hb17⟩
  have h17 := (h16.next hb17).put hr17
  clear h16 hr17 hb17
  go_wp2_with fail
  refine (at_lit 5 1 [0, 0, 0, 0, 0] _ (by decide) (by decide) (by decide)).mono ?_
  rintro e w18 ⟨A18, rfl, hr18, hb18⟩
  have h18 := (h17.next hb18).put hr18
  clear h17 hr18 hb18
  go_wp2_with fail
  refine (at_one 257 _ (by decide) (by decide)).mono ?_
  rintro e w19 ⟨A19, rfl, hr19, hb19⟩
  have h19 := (h18.next hb19).put hr19
  clear h18 hr19 hb19
  go_wp2_with fail
  refine (parse_lit _ _ 0 [0, 10, 2] _ (h19.env he) (by decide) (by decide) (by decide)).mono ?_
  rintro e w20 ⟨A20, rfl, hr20, hb20⟩
  have h20 := (h19.next hb20).put hr20
  clear h19 hr20 hb20
  go_wp2_with fail
  refine (parse_lit _ _ 4 [] _ (h20.env he) (by decide) (by decide) (by decide)).mono ?_
  rintro e w21 ⟨A21, rfl, hr21, hb21⟩
  have h21 := (h20.next hb21).put hr21
  clear h20 hr21 hb21
  go_wp2_with fail
  refine (word_lit _ _ _ _ [1, 0, 1] _ _ ((h21.alloc _).rd 4 rfl) (rd_lit w21 [1, 0, 1]) rfl (by decide)).mono ?_
  rintro e w22 ⟨rfl, hb22⟩
  have h22 := h21.one hb22
  clear h21 hb22
  go_wp2_with fail
  refine (times_lit 5 0 5 _ rfl (by decide)).mono ?_
  rintro e w23 ⟨A23, c23, rfl, hr23, hc23, hb23⟩
  have h23 := (h22.next hb23).put hr23
  clear h22 hr23 hb23
  go_wp2_with fail
  refine (word_lit _ _ _ _ (M.reps 5 0) _ _ (h23.rd 4 rfl) (h23.rd 0 rfl) rfl (by decide)).mono ?_
  rintro e w24 ⟨rfl, hb24⟩
  have h24 := h23.next hb24
  clear h23 hb24
  go_wp2_with fail
  refine (word_lit _ _ _ _ [] _ _ (h24.rd 3 rfl) Rd.nil_ rfl (by decide)).mono ?_
  rintro e w25 ⟨rfl, hb25⟩
  have h25 := h24.next hb25
  clear h24 hb25
  go_wp2_with fail
  refine (text_lit _ _ _ [0, 10, 2] _ _ ((h25.alloc _).env he) (rd_lit w25 [0, 10, 2]) rfl (by unfold M.I64; decide) (by decide) text_ten).mono ?_
  rintro e w26 ⟨rfl, hb26⟩
  have h26 := h25.one hb26
  clear h25 hb26
  go_wp2_with fail
  refine (text_lit _ _ _ [] ⟨#[45]⟩ _ (h26.env he) Rd.nil_ rfl (by unfold M.I64; decide) (by decide) rfl).mono ?_
  rintro e w27 ⟨rfl, hb27⟩
  have h27 := h26.next hb27
  clear h26 hb27
  go_wp2_with fail
  refine (word_lit _ _ _ _ [0, 10, 2] _ _ ((h27.alloc _).rd 2 rfl) (rd_lit w27 [0, 10, 2]) rfl (by decide)).mono ?_
  rintro e w28 ⟨rfl, hb28⟩
  have h28 := h27.one hb28
  clear h27 hb28
  go_wp2_with fail
  refine (word_lit _ _ _ _ [] _ _ (h28.rd 1 rfl) Rd.nil_ rfl (by decide)).mono ?_
  rintro e w29 ⟨rfl, hb29⟩
  have h29 := h28.next hb29
  clear h28 hb29
  go_wp2
  go_ret
  exact ⟨rfl, h29.1⟩
end Go.Proofs.YtodjdfpealmjeaaDoor
