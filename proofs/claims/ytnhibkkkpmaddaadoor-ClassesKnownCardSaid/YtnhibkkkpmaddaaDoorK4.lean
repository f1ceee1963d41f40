/-
  The walk of the law ClassesMeet.
-/
import Derived.Test.YtnhibkkkpmaddaaDoorK1
import Derived.Test.YtnhibkkkpmaddaaDoorK2
import Derived.Test.YtnhibkkkpmaddaaDoorC6
import Derived.Deep.RegionHeld3
namespace Go.Proofs.YtnhibkkkpmaddaaDoor
open Go.RowKit

theorem pof_lit (A : Option Addr) (m c : Nat) (xs : List Int) (n : Nat) (P : List Int) (w : World) (h : Rd8 w A xs) (hm : xs.length = m) (hn : n ≤ 256) (hP : M.ofL (M.pad xs n) = P) :
    Calls Tryd.prog 26 #[.agg #[.slice A m c], .int .i64 n] w fun e w' => ∃ B d, e = .returned (.slice B n d) ∧ Rd w' B P ∧ Below w.heap.size w w' := by
  subst hm hP
  refine (pof_any A c xs n w h hn).mono ?_
  rintro e w' ⟨B, d, rfl, hr, _, hb⟩
  rw [M.ofL_len, M.pad_len]
  exact ⟨B, d, rfl, hr, hb⟩
theorem psize_lit (A : Option Addr) (m c n : Nat) (w : World) (hm : m ≤ 9223372036854775807) (hn : min m 14 = n) :
    Calls Tryd.prog 25 #[.agg #[.slice A m c]] w fun e w' => e = .returned (.int .i64 n) ∧ Below w.heap.size w w' := by
  subst hn
  have := psize_any A c (List.replicate m 0) w (by simpa using hm)
  simpa using this
theorem rmeet_lit (A B : Option Addr) (n c d : Nat) (p q r : List Int) (w : World) (hp : Rd w A p) (hq : Rd w B q) (hn : p.length = n) (hm : q.length = n) (h : M.Two p q) (hr : M.meet p q = r) :
    Calls Tryd.prog 27 #[.slice A n c, .slice B n d] w fun e w' => ∃ C k, e = .returned (.slice C n k) ∧ Rd w' C r ∧ Below w.heap.size w w' := by
  subst hn hr
  have hs := Two.small h
  have e : ∀ z ∈ p, 0 ≤ z ∧ z ≤ 1000 := fun z hz => by
    obtain ⟨i, hi, rfl⟩ := M.mem_gz hz
    exact (hs i hi).1
  have e2 : ∀ z ∈ q, 0 ≤ z ∧ z ≤ 1000 := fun z hz => by
    obtain ⟨i, hi, rfl⟩ := M.mem_gz hz
    exact (hs i (by omega)).2
  have C := rmeet_any A B c d p q w hp hq h.most hm.symm e e2
  rw [hm] at C
  refine C.mono ?_
  rintro e w' ⟨C, k, rfl, hr, _, hb⟩
  rw [M.meet_len]
  exact ⟨C, k, rfl, hr, hb⟩
theorem rjoin_lit (A B : Option Addr) (n c d : Nat) (p q r : List Int) (w : World) (hp : Rd w A p) (hq : Rd w B q) (hn : p.length = n) (hm : q.length = n) (h : M.Two p q) (hr : M.pjoin p q = r) :
    Calls Tryd.prog 28 #[.slice A n c, .slice B n d] w fun e w' => ∃ C k, e = .returned (.slice C n k) ∧ Rd w' C r ∧ Below w.heap.size w w' := by
  subst hn hr
  have C := rjoin_any A B c d p q w hp hq hm.symm h.most
  rw [hm] at C
  refine C.mono ?_
  rintro e w' ⟨C, k, rfl, hr, _, hb⟩
  rw [M.join_len]
  exact ⟨C, k, rfl, hr, hb⟩
theorem rfiner_lit (A B : Option Addr) (n c d : Nat) (p q : List Int) (f : Int) (w : World) (hp : Rd w A p) (hq : Rd w B q) (hn : p.length = n) (hm : q.length = n) (hl : n ≤ 256) (hf : M.finI p q = f) :
    Calls Tryd.prog 29 #[.slice A n c, .slice B n d] w fun e w' => e = .returned (.int .i64 f) ∧ Below w.heap.size w w' := by
  subst hn hf
  have C := rfiner_any A B c d p q w hp hq hm.symm (by omega)
  rwa [hm] at C
theorem list_eq (A B : Option Addr) (n d : Nat) (x : List Int) (f : Int) (w : World) (hx : Rd w A x) (hy : Rd w B x) (hn : x.length = n) (hm : n ≤ 1000000) :
    Calls Tryd.prog 19 #[.slice A n n, .int .i64 f, .slice B n d, .int .i64 f] w fun e w' => e = .returned (.bool true) ∧ Below w.heap.size w w' := list_yes A B n d x f w hx hy hn hm

/-- Two lists of the same length that are partitions. -/
theorem two_of {p q : List Int} {n : Nat} (h1 : M.Vd p) (h2 : M.Vd q) (hp : p.length = n) (hq : q.length = n) (hn : n ≤ 256) : M.Two p q := ⟨h1, h2, by rw [hp, hq], by omega⟩

set_option maxRecDepth 100000 in
set_option maxHeartbeats 4000000 in
theorem classesMeet_walk (A B : Option Addr) (ca cb : Nat) (xs ys : List Int) (w : World) (he : Env w) (hx : Rd8 w A xs) (hy : Rd8 w B ys) (hmx : xs.length ≤ 9223372036854775807) :
    Calls Tryd.prog 6 #[.agg #[.slice A xs.length ca], .agg #[.slice B ys.length cb]] w fun e w' => e = .returned (.bool true) ∧ Below w.heap.size w w' := by
  obtain ⟨n, hn⟩ : ∃ n, Hid (min xs.length 14 = n) := ⟨_, rfl⟩
  have hn14 : n ≤ 14 := by have := hn.out; omega
  obtain ⟨P, hP⟩ : ∃ P, Hid (M.ofL (M.pad xs n) = P) := ⟨_, rfl⟩
  obtain ⟨Q, hQ⟩ : ∃ Q, Hid (M.ofL (M.pad ys n) = Q) := ⟨_, rfl⟩
  have hPl : Hid (P.length = n) := by rw [Hid, ← hP.out, M.ofL_len, M.pad_len]
  have hQl : Hid (Q.length = n) := by rw [Hid, ← hQ.out, M.ofL_len, M.pad_len]
  have HT : Hid (M.Two P Q) := two_of (by rw [← hP.out]; exact M.Vd.of_ _) (by rw [← hQ.out]; exact M.Vd.of_ _) hPl.out hQl.out (by omega)
  have HB := Lib.hid HT.out.both
  obtain ⟨X, hX⟩ : ∃ X, Hid (M.meet P Q = X) := ⟨_, rfl⟩
  obtain ⟨Y, hY⟩ : ∃ Y, Hid (M.pjoin P Q = Y) := ⟨_, rfl⟩
  have hXl : Hid (X.length = n) := by rw [Hid, ← hX.out, M.meet_len, hPl.out]
  have hYl : Hid (Y.length = n) := by rw [Hid, ← hY.out, M.join_len, hPl.out]
  obtain ⟨mx, hmx2⟩ : ∃ mx, Hid (xs.length = mx) := ⟨_, rfl⟩
  obtain ⟨my, hmy2⟩ : ∃ my, Hid (ys.length = my) := ⟨_, rfl⟩
  rw [hmx2.out] at hmx hn ⊢
  rw [hmy2.out]
  have hfb : ∃ b : Bool, Hid (M.finV P Q = b) ∧ Hid (M.finI P Q = if b then 1 else 0) := by
    refine ⟨M.finB P Q, M.finV_ok HB.out, ?_⟩
    rw [Hid, M.finI]
  obtain ⟨fb, hf1, hf2⟩ := hfb
  have q1 : ((w.alloc (.cells #[.slice A mx ca] 50)).alloc (.cells #[.slice B my cb] 50)).cell? ⟨w.heap.size, 0, none⟩ = some (.slice A mx ca) := by
    rw [World.cell?_alloc_past _ _ _ (by simp), World.cell?_alloc_at _ _ _ _ rfl]; rfl
  have q2 : ((w.alloc (.cells #[.slice A mx ca] 50)).alloc (.cells #[.slice B my cb] 50)).cell? ⟨w.heap.size + 1, 0, none⟩ = some (.slice B my cb) := by
    rw [World.cell?_alloc_at _ _ _ _ (by simp)]; rfl
  have q3 : Below w.heap.size w ((w.alloc (.cells #[.slice A mx ca] 50)).alloc (.cells #[.slice B my cb] 50)) := ((Below.refl _ _).alloc (Nat.le_refl _) _).alloc (by simp) _
  have q4 : w.heap.size + 2 ≤ ((w.alloc (.cells #[.slice A mx ca] 50)).alloc (.cells #[.slice B my cb] 50)).heap.size := by simp
  go_enter Tryd.func6, Tryd.ntmps6
  go_wp2_with fail
  refine (psize_lit A mx ca n _ hmx hn.out).mono ?_
  rintro e w0 ⟨rfl, hb0⟩
  have q1' : w0.cell? ⟨w.heap.size, 0, none⟩ = some (.slice A mx ca) := (hb0.cell (p := ⟨w.heap.size, 0, none⟩) (by show w.heap.size < _; omega)).trans q1
  have q2' : w0.cell? ⟨w.heap.size + 1, 0, none⟩ = some (.slice B my cb) := (hb0.cell (p := ⟨w.heap.size + 1, 0, none⟩) (by show w.heap.size + 1 < _; omega)).trans q2
  have q3' : Below w.heap.size w w0 := below_next q3 hb0
  have q4' : w.heap.size + 2 ≤ w0.heap.size := by have := hb0.size; omega
  clear q1 q2 q3 q4 hb0
  go_wp2_with fail
  have q5 : Below w.heap.size w w0.drew := q3'.drew
  have X1 := Lib.hid (hx.below q5)
  go_region_held3 (fun w' => w'.cell? ⟨w.heap.size, 0, none⟩ = some (.slice A mx ca) ∧ w'.cell? ⟨w.heap.size + 1, 0, none⟩ = some (.slice B my cb)) (first | exact ⟨g1, g2⟩ | exact ⟨e1, e2⟩ | go_keep)
    (first
      | (go_at_call 26
         (with_reducible refine (pof_lit A mx ca xs n P _ X1.out hmx2.out (by omega) hP.out).mono ?_)
         rintro e w1 ⟨B1, d1, rfl, hr1, hb1⟩
         have g1 : w1.cell? ⟨w.heap.size, 0, none⟩ = some (.slice A mx ca) := (hb1.cell (p := ⟨w.heap.size, 0, none⟩) (by show w.heap.size < w0.heap.size; omega)).trans q1'
         have g2 : w1.cell? ⟨w.heap.size + 1, 0, none⟩ = some (.slice B my cb) := (hb1.cell (p := ⟨w.heap.size + 1, 0, none⟩) (by show w.heap.size + 1 < w0.heap.size; omega)).trans q2'
         have q6 := below_next q5 hb1
         have X2 := Lib.hid (hy.below q6))
      | (go_at_call 26
         (with_reducible refine (pof_lit B my cb ys n Q _ X2.out hmy2.out (by omega) hQ.out).mono ?_)
         rintro e w2 ⟨B2, d2, rfl, hr2, hb2⟩
         have e1 : w2.cell? ⟨w.heap.size, 0, none⟩ = some (.slice A mx ca) := (hb2.cell (p := ⟨w.heap.size, 0, none⟩) (by have := hb1.size; have : w0.drew.heap.size = w0.heap.size := rfl; show w.heap.size < w1.heap.size; omega)).trans g1
         have e2 : w2.cell? ⟨w.heap.size + 1, 0, none⟩ = some (.slice B my cb) := (hb2.cell (p := ⟨w.heap.size + 1, 0, none⟩) (by have := hb1.size; have : w0.drew.heap.size = w0.heap.size := rfl; show w.heap.size + 1 < w1.heap.size; omega)).trans g2))
  have s0 : St w w2 [(B1, P), (B2, Q)] := St.put (St.put (show St w w2 [] from ⟨below_next q6 hb2, fun _ h => by cases h⟩) hr2) (hr1.below hb2)
  clear q1' q2' q3' q4' q5 q6 X1 X2 hr1 hr2 hb1 hb2 g1 g2 e1 e2 hx hy
  go_wp2_with fail
  refine (meet_lit B1 B2 n n d1 d2 P Q X _ (s0.rd 0 rfl) (s0.rd 1 rfl) hPl.out hQl.out HB.out hX.out).mono ?_
  rintro e w3 ⟨C3, rfl, hr3, hb3⟩
  have s3 := (s0.next hb3).put hr3
  rw [hXl.out]
  clear s0 hb3 hr3
  go_wp2_with fail
  refine (join_lit B1 B2 n n d1 d2 P Q Y _ (s3.rd 1 rfl) (s3.rd 2 rfl) hPl.out hQl.out HB.out hY.out).mono ?_
  rintro e w4 ⟨C4, rfl, hr4, hb4⟩
  have s4 := (s3.next hb4).put hr4
  rw [hYl.out]
  clear s3 hb4 hr4
  go_wp2_with fail
  refine (finer_lit B1 B2 n n d1 d2 P Q fb 0 _ (s4.rd 2 rfl) (s4.rd 3 rfl) hPl.out hQl.out HB.out hf1.out).mono ?_
  rintro e w5 ⟨rfl, hb5⟩
  have s5 := s4.next hb5
  clear s4 hb5
  go_wp2_with fail
  refine (rmeet_lit B1 B2 n d1 d2 P Q X _ (s5.rd 2 rfl) (s5.rd 3 rfl) hPl.out hQl.out HT.out hX.out).mono ?_
  rintro e w6 ⟨C6, k6, rfl, hr6, hb6⟩
  have s6 := (s5.next hb6).put hr6
  clear s5 hb6 hr6
  go_wp2_with fail
  refine (list_eq C3 C6 n k6 X 0 _ (s6.rd 2 rfl) (s6.rd 0 rfl) hXl.out (by omega)).mono ?_
  rintro e w7 ⟨rfl, hb7⟩
  have s7 := s6.next hb7
  clear s6 hb7
  go_wp2_with fail
  refine (rjoin_lit B1 B2 n d1 d2 P Q Y _ (s7.rd 3 rfl) (s7.rd 4 rfl) hPl.out hQl.out HT.out hY.out).mono ?_
  rintro e w8 ⟨C8, k8, rfl, hr8, hb8⟩
  have s8 := (s7.next hb8).put hr8
  clear s7 hb8 hr8
  go_wp2_with fail
  refine (list_eq C4 C8 n k8 Y 0 _ (s8.rd 2 rfl) (s8.rd 0 rfl) hYl.out (by omega)).mono ?_
  rintro e w9 ⟨rfl, hb9⟩
  have s9 := s8.next hb9
  clear s8 hb9
  go_wp2_with fail
  refine (rfiner_lit B1 B2 n d1 d2 P Q _ _ (s9.rd 4 rfl) (s9.rd 5 rfl) hPl.out hQl.out (by omega) hf2.out).mono ?_
  rintro e w10 ⟨rfl, hb10⟩
  have s10 := s9.next hb10
  clear s9 hb10 hf1 hf2
  cases fb
  all_goals
    go_wp2_with fail
    refine (lives_any _ (s10.env he)).mono ?_
    rintro e w11 ⟨rfl, hb11⟩
    have s11 := s10.next hb11
    go_wp2
    go_ret
    exact ⟨rfl, s11.1⟩
end Go.Proofs.YtnhibkkkpmaddaaDoor
