/-
  Contracts for the walks of the laws: Power, the law's own machine, runs; what Rounds gives for a machine of few states. No statement is proved here.
-/
import Derived.Test.YtonnplhiaidjnaaRb2
import Derived.Test.YtonnplhiaidjnaaRmZ
namespace Go.Proofs.Ytonnplhiaidjnaa
open Go.RowKit
open Mc (Ed Ma)

theorem pow_le81 {i k : Nat} (hi : i ≤ 3) (hk : k ≤ 4) : i ^ k ≤ 81 :=
  Nat.le_trans (Nat.pow_le_pow_left hi k) (Nat.pow_le_pow_right (by omega) hk)
theorem power_any (i k : Nat) (w : World) (hi : i ≤ 3) (hk : k ≤ 4) :
    Calls Try.prog 63 #[.int .i64 i, .int .i64 k] w fun e w' => e = .returned (.int .i64 ((i ^ k : Nat) : Int)) ∧ Below w.heap.size w w' := by
  go_enter Try.func63, Try.ntmps63
  go_wp2
  go_loopw [5, 6] (fun x y wr => ∃ (j : Nat) (q : Int), j ≤ k ∧ x = .int .i64 q ∧ y = .int .i64 j ∧ Hid (q = ((i ^ j : Nat) : Int)) ∧ Below w.heap.size w wr) (fun _ y _ => k - (intOf y).toNat)
  case atStart => exact ⟨0, 1, Nat.zero_le _, rfl, rfl, by show _ = _; simp, Below.refl _ _⟩
  case round =>
    obtain ⟨j, q, hj, rfl, rfl, hq, hbr⟩ := hrel
    by_cases hlt : j < k
    · have hlt' : (j : Int) < k := by omega
      obtain ⟨r, hrr, hr2⟩ : ∃ r, q * (i : Int) = r ∧ Hid (r = ((i ^ (j + 1) : Nat) : Int)) := ⟨_, rfl, by show _ = _; rw [hq.out, Nat.pow_succ]; simp⟩
      have hr3 : 0 ≤ r ∧ r ≤ 81 := by
        have := pow_le81 hi (k := j + 1) (by omega)
        have := hr2.out
        omega
      have hwr := IntWalk.i64_in r (by omega)
      go_wp2
      go_roundw
      case rel => exact ⟨j + 1, r, by omega, rfl, by go_num, hr2, hbr⟩
      case measure => simp [intOf]; omega
    · obtain rfl : j = k := by omega
      go_wp2
      go_ret
      exact ⟨ret_int hq.out, hbr⟩
theorem mof_at (a b d : Int) (p : Bool) (A : Option Addr) (c : Nat) (es : List Int) (n i o : Nat) (w : World) (hr : Rd16 w A es) (hl : es.length ≤ 9223372036854775807) (ha : 0 ≤ a ∧ a ≤ 255) (hb : 0 ≤ b ∧ b ≤ 255) (hd : 0 ≤ d ∧ d ≤ 255)
    (hn : 1 + a % 6 = n) (hi : 1 + b % 3 = i) (ho : 1 + d % 3 = o) :
    Calls Try.prog 14 #[.agg #[.int .u8 a, .int .u8 b, .int .u8 d, .bool p, .slice A es.length c]] w fun e w' => ∃ B k, e = .returned (.agg #[.int .i64 i, .int .i64 o, .slice B n k]) ∧ RdR w' B (Mc.mkN p n i o es).r ∧ Below w.heap.size w w' := by
  refine (mof_any a b d p A c es n i o w hr hl ha hb hd hn hi ho).mono ?_
  rintro e w' ⟨V, vs, rfl, hB, hbl⟩
  obtain ⟨B, k, rfl, _, _, _, hrd⟩ := hB.out.rd
  rw [Mc.mkN_len]
  exact ⟨B, k, rfl, hrd, hbl⟩
section
variable (m : Ma) (i o : Int) (A : Option Addr) (n c : Nat) (w : World)
theorem rrun_at (s : Int) (W : Option Addr) (k d : Nat) (ws : List Int) (v : Mc.Val m) (hi : m.i = i) (ho : m.o = o) (hn : m.r.length = n) (hk : ws.length = k) (hr : RdR w A m.r) (hw : Rd w W ws) (hs : Mc.St m s) (hwd : Mc.Wd m ws) (hl : k ≤ 65536) :
    Calls Try.prog 25 #[.agg #[.int .i64 i, .int .i64 o, .slice A n c], .int .i64 s, .slice W k d] w fun e w' => ∃ B q, e = .returned (.slice B k q) ∧ Rd w' B (Mc.run m s ws) ∧ Below w.heap.size w w' := by
  subst hi ho hn hk
  refine (rrun_any m s A W c d ws w v hr hw hs hwd hl).mono ?_
  rintro e w' ⟨B, q, rfl, h1, _, h2⟩
  rw [Mc.run_len]
  exact ⟨B, q, rfl, h1, h2⟩
theorem same_at (X Y : Option Addr) (k c d : Nat) (x y : List Int) (hx : Rd w X x) (hy : Rd w Y y) (h1 : x.length = k) (h2 : y.length = k) (hk : k ≤ 1000000) :
    Calls Try.prog 18 #[.slice X k c, .slice Y k d] w fun e w' => e = .returned (.bool (M.same x y)) ∧ Below w.heap.size w w' := by
  subst h1
  have := same_any X Y c d x y w hx hy (by omega)
  rwa [h2] at this
theorem prounds_at (k : Nat) (v : Mc.Val m) (hi : m.i = i) (ho : m.o = o) (hn : m.r.length = n) (hr : RdR w A m.r) :
    Calls Try.prog 20 #[.agg #[.int .i64 i, .int .i64 o, .slice A n c], .int .i64 k] w fun e w' => ∃ B, e = .returned (.tuple #[.slice B n n, .int .i64 0]) ∧ Rd w' B (Mc.rnd m k) ∧ Below w.heap.size w w' := by
  subst hi ho hn
  have hc := Mc.chk_of v
  have h1 := v.r1
  have h := rounds_any m.i m.o m.r A m.r.length c k w hr rfl (by omega) (fun row hrow => by have := v.len row hrow; have := v.i1; omega)
  have e1 : Mc.rdV ⟨m.i, m.o, m.r⟩ (k : Int) = Mc.rnd m k := by unfold Mc.rdV; rw [if_pos hc, if_neg (by omega), Int.toNat_natCast]
  have e2 : Mc.rdE ⟨m.i, m.o, m.r⟩ (k : Int) = 0 := by unfold Mc.rdE; rw [if_pos hc, if_neg (by omega)]
  rw [e1, e2] at h
  refine h.mono ?_
  rintro e w' ⟨B, rfl, h1, h2⟩
  rw [Mc.rnd_len]
  exact ⟨B, rfl, h1, h2⟩
theorem prcheck_at (P : Option Addr) (d : Nat) (p : List Int) (hp : Rd w P p) (hv : M.Vd p) (hn : p.length = n) (h64 : n ≤ 64) :
    Calls Try.prog 62 #[.slice P n d] w fun e w' => e = .returned (.int .i64 0) ∧ Below w.heap.size w w' := by
  subst hn
  have h := rcheck_any P d p w hp
  rwa [M.pck_ok (by omega) hv] at h
end
namespace Mc
/-- So far the words of k symbols tell two states not apart. -/
def sam (m : Ma) (i k : Nat) (s t : Int) (j : Nat) : Bool := (List.range j).all fun q => M.same (run m s (dg i k q)) (run m t (dg i k q))
theorem sam_zero (m : Ma) (i k : Nat) (s t : Int) : sam m i k s t 0 = true := rfl
theorem sam_step (m : Ma) (i k : Nat) (s t : Int) (j : Nat) : sam m i k s t (j + 1) = (sam m i k s t j && M.same (run m s (dg i k j)) (run m t (dg i k j))) := by
  simp [sam, List.range_succ]
theorem sam_off {m : Ma} {i k : Nat} {s t : Int} {j j' : Nat} (h : sam m i k s t j = false) (hj : j ≤ j') : sam m i k s t j' = false := by
  unfold sam at h ⊢
  rw [← Bool.not_eq_true] at h ⊢
  intro h2
  apply h
  rw [List.all_eq_true] at h2 ⊢
  intro q hq
  exact h2 q (by simp at hq ⊢; omega)
theorem same_iff' {x y : List Int} : M.same x y = true ↔ x = y := by
  constructor
  · intro h
    by_cases e : x = y
    · exact e
    · rw [M.same_no e] at h; cases h
  · exact M.same_yes
theorem sam_all {m : Ma} (v : Val m) {i k s t : Nat} (hi : m.i = i) (hs : s < m.r.length) (ht : t < m.r.length) : sam m i k s t (i ^ k) = (M.gz (rnd m k) s == M.gz (rnd m k) t) := by
  have h0 : 0 < i := by have := v.i0; omega
  rw [Bool.eq_iff_iff, beq_iff_eq, rnd_iff v k hs ht, eqv_full hi h0]
  unfold sam
  rw [List.all_eq_true]
  constructor
  · intro h q hq
    exact same_iff'.1 (h q (by simpa using hq))
  · intro h q hq
    exact same_iff'.2 (h q (by simpa using hq))
end Mc
end Go.Proofs.Ytonnplhiaidjnaa
