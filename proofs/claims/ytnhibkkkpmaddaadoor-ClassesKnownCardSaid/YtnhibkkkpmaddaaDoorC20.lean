/-
  Contracts: list and lives, the examples of the chapter.
-/
import Derived.Test.YtnhibkkkpmaddaaDoorC13
import Derived.Test.YtnhibkkkpmaddaaDoorC18
namespace Go.Proofs.YtnhibkkkpmaddaaDoor
open Go.RowKit

/-- What is known on the way: below the start all is as it was; the lists that are still wanted. -/
def St (w w' : World) (L : List (Option Addr × List Int)) : Prop := Below w.heap.size w w' ∧ ∀ p ∈ L, Rd w' p.1 p.2
section
variable {w w1 w2 : World} {L : List (Option Addr × List Int)}
theorem St.start (w : World) : St w w [] := ⟨Below.refl _ _, fun _ h => by simp at h⟩
theorem St.next (h : St w w1 L) (hb : Below w1.heap.size w1 w2) : St w w2 L := ⟨below_next h.1 hb, fun p hp => (h.2 p hp).below hb⟩
theorem St.put (h : St w w1 L) {A : Option Addr} {zs : List Int} (hr : Rd w1 A zs) : St w w1 ((A, zs) :: L) := ⟨h.1, fun p hp => by
  rcases List.mem_cons.1 hp with rfl | h1
  · exact hr
  · exact h.2 p h1⟩
theorem St.alloc (h : St w w1 L) (o : Obj) : St w (w1.alloc o) L := h.next ((Below.refl _ _).alloc (Nat.le_refl _) o)
theorem St.env (h : St w w1 L) (he : Env w) : Env w1 := he.below h.1
theorem St.rd (h : St w w1 L) {A : Option Addr} {zs : List Int} (i : Nat) (hi : L[i]? = some (A, zs)) : Rd w1 A zs := h.2 (A, zs) (List.mem_of_getElem? hi)
theorem St.two (h : St w w1 L) {o1 o2 : Obj} (hb : Below ((w1.alloc o1).alloc o2).heap.size ((w1.alloc o1).alloc o2) w2) : St w w2 L := ((h.alloc o1).alloc o2).next hb
theorem St.one (h : St w w1 L) {o1 : Obj} (hb : Below (w1.alloc o1).heap.size (w1.alloc o1) w2) : St w w2 L := (h.alloc o1).next hb
end
theorem rd_lit (w : World) (zs : List Int) : Rd (w.alloc (.cells (ints zs).toArray 3)) (some ⟨w.heap.size, 0, none⟩) zs := Rd.of_block (heap_alloc_new w _)
theorem rd_fst (w : World) (zs : List Int) (o : Obj) : Rd ((w.alloc (.cells (ints zs).toArray 3)).alloc o) (some ⟨w.heap.size, 0, none⟩) zs := (rd_lit w zs).alloc o
theorem rd_snd (w : World) (zs : List Int) (o : Obj) : Rd ((w.alloc o).alloc (.cells (ints zs).toArray 3)) (some ⟨w.heap.size + 1, 0, none⟩) zs := by
  have := rd_lit (w.alloc o) zs
  simpa using this
theorem rdp_lit (w : World) (ps : List (Int × Int)) : RdP (w.alloc (.cells (pcells ps).toArray 45)) (some ⟨w.heap.size, 0, none⟩) ps := BlkP.rd (heap_alloc_new w _)

/-- list, where all is as it is wanted. -/
theorem list_yes (A B : Option Addr) (n d : Nat) (x : List Int) (f : Int) (w : World) (hx : Rd w A x) (hy : Rd w B x) (hn : x.length = n) (hm : n ≤ 1000000) :
    Calls Tryd.prog 19 #[.slice A n n, .int .i64 f, .slice B n d, .int .i64 f] w fun e w' => e = .returned (.bool true) ∧ Below w.heap.size w w' := by
  subst hn
  have C := same_any A B x.length d x x w hx hy (by omega)
  rw [M.same_yes rfl] at C
  go_enter Tryd.func19, Tryd.ntmps19
  go_wp2_with fail
  refine C.mono ?_
  rintro e w1 ⟨rfl, hb1⟩
  go_wp2
  go_ret
  exact ⟨rfl, hb1⟩
theorem of_lit (A : Option Addr) (n c : Nat) (zs ys : List Int) (w : World) (h : Rd w A zs) (hn : zs.length = n) (hv : M.I64 zs) (hl : n ≤ 256) (hy : M.ofL zs = ys) :
    Calls Tryd.prog 20 #[.slice A n c] w fun e w' => ∃ B, e = .returned (.tuple #[.slice B ys.length ys.length, .int .i64 0]) ∧ Rd w' B ys ∧ Below w.heap.size w w' := by
  have := of_at A c n zs w h hn hl hv
  rw [hy] at this
  exact this
theorem blocks_lit (A : Option Addr) (n c m : Nat) (p : List Int) (w : World) (h : Rd w A p) (hn : p.length = n) (hp : M.pck p = 0) (hm : M.cnt p = m) :
    Calls Tryd.prog 13 #[.slice A n c] w fun e w' => ∃ L, e = .returned (.tuple #[.slice L m m, .int .i64 0]) ∧ RdX w' L m (M.blk p) ∧ Below w.heap.size w w' := by
  subst hn hm
  have := blocks_any A c p w h
  unfold Blks at this
  simpa only [if_pos hp] using this
theorem text_lit (A : Option Addr) (n c : Nat) (p : List Int) (b : ByteArray) (w : World) (he : Env w) (h : Rd w A p) (hn : p.length = n) (hp : M.pck p = 0) (hb : (⟨(M.textP p).toArray⟩ : ByteArray) = b) :
    Calls Tryd.prog 14 #[.slice A n c] w fun e w' => e = .returned (.tuple #[.string b, .int .i64 0]) ∧ Below w.heap.size w w' := by
  subst hn hb
  have := text_any A c p w he h
  rwa [hp, M.textV_ok hp] at this
theorem count_lit (A : Option Addr) (n c m : Nat) (p : List Int) (w : World) (h : Rd w A p) (hn : p.length = n) (hp : M.pck p = 0) (hm : M.cnt p = m) :
    Calls Tryd.prog 12 #[.slice A n c] w fun e w' => e = .returned (.tuple #[.int .i64 m, .int .i64 0]) ∧ Below w.heap.size w w' := by
  subst hn hm
  have := count_any A c p w h
  rwa [hp, M.cntV_ok hp] at this
theorem check_lit (A : Option Addr) (n c : Nat) (p : List Int) (r : Int) (w : World) (h : Rd w A p) (hn : p.length = n) (hr : M.pck p = r) :
    Calls Tryd.prog 11 #[.slice A n c] w fun e w' => e = .returned (.int .i64 r) ∧ Below w.heap.size w w' := by
  subst hn hr
  exact check_any A c p w h
theorem meet_lit (A B : Option Addr) (n m c d : Nat) (p q r : List Int) (w : World) (hp : Rd w A p) (hq : Rd w B q) (hn : p.length = n) (hm : q.length = m) (h : M.both p q = 0) (hr : M.meet p q = r) :
    Calls Tryd.prog 16 #[.slice A n c, .slice B m d] w fun e w' => ∃ C, e = .returned (.tuple #[.slice C r.length r.length, .int .i64 0]) ∧ Rd w' C r ∧ Below w.heap.size w w' := by
  subst hn hm hr
  exact meet_in A B c d p q w hp hq h
theorem join_lit (A B : Option Addr) (n m c d : Nat) (p q r : List Int) (w : World) (hp : Rd w A p) (hq : Rd w B q) (hn : p.length = n) (hm : q.length = m) (h : M.both p q = 0) (hr : M.pjoin p q = r) :
    Calls Tryd.prog 17 #[.slice A n c, .slice B m d] w fun e w' => ∃ C, e = .returned (.tuple #[.slice C r.length r.length, .int .i64 0]) ∧ Rd w' C r ∧ Below w.heap.size w w' := by
  subst hn hm hr
  have := join_any A B c d p q w hp hq
  rw [h, M.joinV_ok h] at this
  exact this
theorem finer_lit (A B : Option Addr) (n m c d : Nat) (p q : List Int) (r : Bool) (f : Int) (w : World) (hp : Rd w A p) (hq : Rd w B q) (hn : p.length = n) (hm : q.length = m) (hf : M.both p q = f) (hr : M.finV p q = r) :
    Calls Tryd.prog 18 #[.slice A n c, .slice B m d] w fun e w' => e = .returned (.tuple #[.bool r, .int .i64 f]) ∧ Below w.heap.size w w' := by
  subst hn hm hr hf
  exact finer_any A B c d p q w hp hq
theorem close_lit (A : Option Addr) (m c : Nat) (n f : Int) (ps : List (Int × Int)) (r : List Int) (w : World) (h : RdP w A ps) (hm : ps.length = m) (hl : m ≤ 1000000) (hf : M.clE n ps = f) (hr : M.clV n ps = r) :
    Calls Tryd.prog 23 #[.int .i64 n, .slice A m c] w fun e w' => ∃ C, e = .returned (.tuple #[.slice C r.length r.length, .int .i64 f]) ∧ Rd w' C r ∧ Below w.heap.size w w' := by
  subst hf hr
  exact close_at A c m n ps w h hm hl
theorem parse_lit (s : ByteArray) (r : List Int) (f : Int) (w : World) (he : Env w) (hr : M.pparse s.data.toList = (r, f)) :
    Calls Tryd.prog 31 #[.string s] w fun e w' => ∃ C, e = .returned (.tuple #[.slice C r.length r.length, .int .i64 f]) ∧ Rd w' C r ∧ Below w.heap.size w w' := by
  have := parse_any s w he
  rw [hr] at this
  exact this
theorem finV_yes {p q : List Int} (h : M.both p q = 0) (h1 : M.meet p q = p) : M.finV p q = true := by
  rw [M.finV_ok h]
  exact M.finB_yes ((M.fin_meet (M.both_zero h)).2 h1)
theorem finV_no {p q : List Int} (h : M.both p q = 0) (h1 : M.meet p q ≠ p) : M.finV p q = false := by
  rw [M.finV_ok h]
  exact M.finB_no fun h2 => h1 ((M.fin_meet (M.both_zero h)).1 h2)
theorem clE_lit {n : Nat} {ps : List (Int × Int)} (hn : n ≤ 256) (h : (ps.all fun x => decide (0 ≤ x.1 ∧ x.1 < n ∧ 0 ≤ x.2 ∧ x.2 < n)) = true) : M.clE n ps = 0 := by
  refine M.clE_ok (by omega) (by omega) fun x hx => ?_
  have := List.all_eq_true.1 h x hx
  simpa [M.okP] using this
theorem clV_lit {n : Nat} {ps : List (Int × Int)} {r : List Int} (h : M.clE n ps = 0) (h1 : M.close n (natP ps) = r) : M.clV n ps = r := by
  rw [M.clV_ok h, Int.toNat_natCast, h1]
theorem text_ex : (⟨(M.textP [0, 1, 0, 2]).toArray⟩ : ByteArray) = ⟨#[48, 32, 50, 32, 124, 32, 49, 32, 124, 32, 51]⟩ := by
  have e : (List.range (M.cnt [0, 1, 0, 2])).map (M.rowT [0, 1, 0, 2]) = [Lib.join [Lib.itoa 0, Lib.itoa 2] [32], Lib.join [Lib.itoa 1] [32], Lib.join [Lib.itoa 3] [32]] := rfl
  unfold M.textP
  rw [if_neg (by simp), e]
  simp [Lib.join, Lib.itoa, Lib.decDigits, List.intercalate, List.intersperse, M.bar]
theorem text_ex2 : M.textP [0, 1, 0] = [48, 32, 50, 32, 124, 32, 49] := by
  have e : (List.range (M.cnt [0, 1, 0])).map (M.rowT [0, 1, 0]) = [Lib.join [Lib.itoa 0, Lib.itoa 2] [32], Lib.join [Lib.itoa 1] [32]] := rfl
  unfold M.textP
  rw [if_neg (by simp), e]
  simp [Lib.join, Lib.itoa, Lib.decDigits, List.intercalate, List.intersperse, M.bar]
theorem parse_ex1 : M.pparse [48, 32, 50, 32, 124, 32, 49] = ([0, 1, 0], 0) := M.pparse_ok (by simp) (by decide +kernel) (by decide +kernel) text_ex2
theorem parse_ex2 : M.pparse [49, 32, 124, 32, 48, 32, 50] = ([], 4) := M.pparse_bad (p := [1, 0, 1]) (by simp) (by decide +kernel) (by rintro ⟨h, _⟩; revert h; decide +kernel)
theorem parse_ex3 : M.pparse [48, 32, 50] = ([], 4) := M.pparse_none (by simp) (by decide +kernel)
end Go.Proofs.YtnhibkkkpmaddaaDoor
