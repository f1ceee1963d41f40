/-
  Several texts in one: QnU, Qr3. No statement is proved here.
-/
import Derived.Test.YtnodnfailjmpeaaQnI
import Derived.Test.YtnodnfailjmpeaaQr0
namespace Go.Proofs.Ytnodnfailjmpeaa.Mc
open M (gz Vd rk cnt)

/-- An edge to either copy. -/
def twE (n i : Nat) (t : List Int) (s j : Nat) (x : Ed) : Ed := if 0 ≤ x.1 ∧ s * i + j < t.length ∧ gz t (s * i + j) % 2 = 1 then (x.1 + n, x.2) else x
/-- A row of the machine with the copies. -/
def twR (m : Ma) (n i : Nat) (t : List Int) (s : Nat) : List Ed := (List.range i).map fun j => twE n i t s j ((((m.r[s % n]?).getD [])[j]?).getD nE)
def twn (m : Ma) (n i : Nat) (t : List Int) : Ma := { m with r := (List.range (2 * n)).map (twR m n i t) }
/-- Each copy with its state. -/
def twP (n : Nat) (k : Nat) : List Int := (List.range k).map fun s => ((s % n : Nat) : Int)
theorem twP_len (n k : Nat) : (twP n k).length = k := by simp [twP]
theorem twP_snoc (n k : Nat) : twP n (k + 1) = twP n k ++ [((k % n : Nat) : Int)] := by simp [twP, List.range_succ]
theorem twP_gz {n k s : Nat} (h : s < k) : gz (twP n k) s = ((s % n : Nat) : Int) := by simp [gz, twP, h]
section
variable {m : Ma} {n i : Nat} {t : List Int} {s j : Nat}
theorem twR_len : (twR m n i t s).length = i := by simp [twR]
theorem twR_at {row : List Ed} {x : Ed} (hr : m.r[s % n]? = some row) (hj : j < i) (hx : row[j]? = some x) : (twR m n i t s)[j]? = some (twE n i t s j x) := by
  simp [twR, hj, hr, hx]
theorem twn_len : (twn m n i t).r.length = 2 * n := by simp [twn]
theorem twn_at (h : s < 2 * n) : (twn m n i t).r[s]? = some (twR m n i t s) := by simp [twn, h]
theorem twE_out (x : Ed) : (twE n i t s j x).2 = x.2 := by unfold twE; split <;> rfl
theorem twE_to (x : Ed) : (twE n i t s j x).1 = x.1 ∨ (0 ≤ x.1 ∧ (twE n i t s j x).1 = x.1 + n) := by
  unfold twE
  split
  · rename_i h; exact Or.inr ⟨h.1, rfl⟩
  · exact Or.inl rfl
theorem twn_nx (v : Val m) (hn : m.r.length = n) (hi : m.i = i) (hs : s < 2 * n) (hj : j < i) : nx (twn m n i t) s j = twE n i t s j (nx m ((s % n : Nat) : Int) j) := by
  have h0 := v.r0
  have hsn : s % n < m.r.length := by rw [hn]; exact Nat.mod_lt _ (by omega)
  have hrow := List.getElem?_eq_getElem hsn
  have hl := v.len _ (List.getElem_mem hsn)
  have hx := List.getElem?_eq_getElem (l := m.r[s % n]) (i := j) (by omega)
  rw [nx_at (twn_at hs) (twR_at hrow hj hx), nx_at hrow hx]
theorem twn_val (v : Val m) (hn : m.r.length = n) (hi : m.i = i) (h6 : n ≤ 32) : Val (twn m n i t) := by
  have h0 := v.r0
  refine ⟨v.i0, v.i1, v.o0, v.o1, by rw [twn_len]; omega, by rw [twn_len]; omega, fun row hr => ?_, fun row hr x hx => ?_⟩
  · obtain ⟨s, hs, rfl⟩ := List.mem_map.1 hr
    rw [twR_len]
    exact hi.symm
  · obtain ⟨s, hs, rfl⟩ := List.mem_map.1 hr
    obtain ⟨j, hj, rfl⟩ := List.mem_map.1 hx
    have hj := List.mem_range.1 hj
    have hsn : s % n < m.r.length := by rw [hn]; exact Nat.mod_lt _ (by omega)
    have hrow := List.getElem?_eq_getElem hsn
    have hl := v.len _ (List.getElem_mem hsn)
    have hjl : j < (m.r[s % n]).length := by omega
    have hxx := List.getElem?_eq_getElem hjl
    rw [hrow, Option.getD_some, hxx, Option.getD_some, twE_out, twn_len]
    rcases v.ok _ (List.getElem_mem hsn) _ (List.getElem_mem hjl) with ⟨e1, e2⟩ | ⟨e1, e2, e3, e4⟩
    · refine Or.inl ⟨?_, e2⟩
      rcases twE_to (n := n) (i := i) (t := t) (s := s) (j := j) (m.r[s % n])[j] with h | ⟨h, _⟩
      · rw [h, e1]
      · omega
    · refine Or.inr ?_
      rcases twE_to (n := n) (i := i) (t := t) (s := s) (j := j) (m.r[s % n])[j] with h | ⟨_, h⟩
      · rw [h]
        exact ⟨e1, by omega, e3, e4⟩
      · rw [h]
        exact ⟨by omega, by omega, e3, e4⟩
/-- The copies belong to their states. -/
theorem twn_hom (v : Val m) (hn : m.r.length = n) (hi : m.i = i) (h6 : n ≤ 32) : Hom (twn m n i t) m (twP n (2 * n)) := by
  have h0 := v.r0
  refine ⟨?_, fun s j hs hj => ?_, fun s j hs hj h => ?_⟩
  · rw [twP_gz (by omega), Nat.zero_mod]; rfl
  · rw [twn_len] at hs
    have hj2 : j < i := by have : (j : Int) < m.i := hj; omega
    rw [twP_gz hs, twn_nx v hn hi hs hj2, twE_out]
  · rw [twn_len] at hs
    have hj2 : j < i := by have : (j : Int) < m.i := hj; omega
    rw [twP_gz hs, twn_nx v hn hi hs hj2] at *
    have hst : St m ((s % n : Nat) : Int) := Or.inr ⟨by omega, by rw [hn]; have := Nat.mod_lt s (show 0 < n by omega); omega⟩
    have hx0 := (nx_st v hst (i := (j : Int)) ⟨by omega, hj⟩).1
    obtain ⟨x, hxe⟩ : ∃ x, nx m ((s % n : Nat) : Int) j = x := ⟨_, rfl⟩
    have hx : x.1 = -1 ∨ (0 ≤ x.1 ∧ x.1 < n) := by
      rw [← hxe]
      rcases hx0 with h9 | ⟨h9, h8⟩
      · exact Or.inl h9
      · exact Or.inr ⟨h9, by have h7 : (nx m ((s % n : Nat) : Int) j).1 < (m.r.length : Int) := h8; omega⟩
    rw [hxe] at h ⊢
    rcases twE_to (n := n) (i := i) (t := t) (s := s) (j := j) x with e | ⟨e0, e⟩
    · rw [e] at h ⊢
      have hxl : x.1 < n := by omega
      obtain ⟨q, hq⟩ := Int.eq_ofNat_of_zero_le h
      rw [hq, Int.toNat_natCast, twP_gz (by omega), Nat.mod_eq_of_lt (by omega)]
    · rw [e]
      have hxl : x.1 < n := by omega
      obtain ⟨q, hq⟩ := Int.eq_ofNat_of_zero_le e0
      rw [hq, show ((q : Int) + n).toNat = q + n by omega, twP_gz (by omega), Nat.add_mod_right, Nat.mod_eq_of_lt (by omega)]
theorem twP_rg (h0 : 0 < n) : ∀ s : Nat, s < 2 * n → 0 ≤ gz (twP n (2 * n)) s ∧ gz (twP n (2 * n)) s < n := fun s hs => by
  rw [twP_gz hs]
  have := Nat.mod_lt s h0
  omega
/-- However the states are doubled, the minimal form is the same. -/
theorem twn_qn (v : Val m) (hn : m.r.length = n) (hi : m.i = i) (h6 : n ≤ 32) : qn (twn m n i t) = qn m := by
  have hv := twn_val (t := t) v hn hi h6
  have h0 := v.r0
  have hs : Sim (twn m n i t) m := (twn_hom v hn hi h6).sim hv v rfl fun s hs => by
    rw [twn_len] at hs
    rw [hn]
    exact twP_rg (by omega) s hs
  exact mnf_same hv v (ord_ord hv) (ord_ord v) hs rfl
end
end Go.Proofs.Ytnodnfailjmpeaa.Mc

namespace Go.Proofs.Ytnodnfailjmpeaa
open Go.RowKit
open Mc (Ed Ma)

set_option maxRecDepth 100000 in
set_option maxHeartbeats 8000000 in
theorem lawQUni_walk (a b d : Int) (p : Bool) (A : Option Addr) (c : Nat) (es : List Int) (T0 : Option Addr) (ct : Nat) (ts : List Int) (w : World) (hr : Rd16 w A es) (hl : es.length ≤ 9223372036854775807) (ha : 0 ≤ a ∧ a ≤ 255) (hb : 0 ≤ b ∧ b ≤ 255) (hd : 0 ≤ d ∧ d ≤ 255) (ht : Rd16 w T0 ts) :
    Calls Try.prog 15 #[.agg #[.int .u8 a, .int .u8 b, .int .u8 d, .bool p, .slice A es.length c], .slice T0 ts.length ct] w fun e w' => e = .returned (.bool true) ∧ Below w.heap.size w w' := by
  obtain ⟨n, hn⟩ : ∃ n : Nat, 1 + a % 6 = n := ⟨(1 + a % 6).toNat, by omega⟩
  obtain ⟨i, hi⟩ : ∃ i : Nat, 1 + b % 3 = i := ⟨(1 + b % 3).toNat, by omega⟩
  obtain ⟨o, ho⟩ : ∃ o : Nat, 1 + d % 3 = o := ⟨(1 + d % 3).toNat, by omega⟩
  have hn6 : n ≤ 6 := by omega
  have hn1 : 1 ≤ n := by omega
  have CM := fun w hr => mof_at a b d p A c es n i o w hr hl ha hb hd hn hi ho
  obtain ⟨M, hM⟩ : ∃ M, Mc.mkN p n i o es = M := ⟨_, rfl⟩
  have V := Lib.hid (Mc.mkN_val (p := p) (n := n) (i := i) (o := o) (es := es) (by omega) (by omega) (by omega) (by omega) (by omega) (by omega))
  have hlen : Hid ((Mc.mkN p n i o es).r.length = n) := Mc.mkN_len _ _ _ _ _
  have hmi : Hid ((Mc.mkN p n i o es).i = i) := rfl
  have hmo : Hid ((Mc.mkN p n i o es).o = o) := rfl
  rw [hM] at V hlen hmi hmo
  simp only [hM] at CM
  have HR := Lib.hid hr
  obtain ⟨E2, hE2⟩ : ∃ E, es.length = E := ⟨_, rfl⟩
  simp only [hE2] at CM
  rw [hE2]
  obtain ⟨C, hC⟩ : ∃ C, Mc.qn M = C := ⟨_, rfl⟩
  obtain ⟨K, hK⟩ : ∃ K, C.r.length = K := ⟨_, rfl⟩
  have VC : Hid (Mc.Val C) := hC ▸ Mc.qn_val V.out
  have hCi : Hid (C.i = i) := by show _ = _; rw [← hC]; exact hmi.out
  have hCo : Hid (C.o = o) := by show _ = _; rw [← hC]; exact hmo.out
  have hCK : Hid (C.r.length = K) := hK
  have hKn : K ≤ n := by rw [← hK, ← hC, ← hlen.out]; exact Mc.qn_le V.out
  have HC := Lib.hid hC
  obtain ⟨N2, hN2⟩ : ∃ N2, 2 * n = N2 := ⟨_, rfl⟩
  have hN2I : (2 : Int) * (n : Int) = N2 := by rw [← hN2]; simp
  have hN12 : N2 ≤ 12 := by omega
  have hN0 : 2 ≤ N2 := by omega
  have hN8 : n ≤ N2 := by omega
  obtain ⟨TW, hTW⟩ : ∃ TW, Mc.twn M n i ts = TW := ⟨_, rfl⟩
  obtain ⟨T, hT⟩ : ∃ T, TW.r = T := ⟨_, rfl⟩
  obtain ⟨Q, hQ⟩ : ∃ Q, Mc.twP n N2 = Q := ⟨_, rfl⟩
  have VT : Hid (Mc.Val TW) := hTW ▸ Mc.twn_val V.out hlen.out hmi.out (by omega)
  have hTi : Hid (TW.i = i) := by show _ = _; rw [← hTW]; exact hmi.out
  have hTo : Hid (TW.o = o) := by show _ = _; rw [← hTW]; exact hmo.out
  have hTq : Hid (Mc.qn TW = C) := by show _ = _; rw [← hTW, ← hC]; exact Mc.twn_qn V.out hlen.out hmi.out (by omega)
  have hTl : Hid (T.length = N2) := by show _ = _; rw [← hT, ← hTW, Mc.twn_len]; exact hN2
  have hTr : Hid (TW.r = T) := hT
  have hTat : Hid (∀ s, s < N2 → T[s]? = some (Mc.twR M n i ts s)) := fun s hs => by rw [← hT, ← hTW]; exact Mc.twn_at (by omega)
  have hHom : Hid (Mc.Hom TW M Q) := by show Mc.Hom _ _ _; rw [← hTW, ← hQ, ← hN2]; exact Mc.twn_hom V.out hlen.out hmi.out (by omega)
  have hQr : Hid (∀ s : Nat, s < N2 → 0 ≤ Go.Proofs.Ytnodnfailjmpeaa.M.gz Q s ∧ Go.Proofs.Ytnodnfailjmpeaa.M.gz Q s < n) := by show ∀ s : Nat, _; rw [← hQ, ← hN2]; exact Mc.twP_rg (by omega)
  have hQl : Hid (Q.length = N2) := by show _ = _; rw [← hQ]; exact Mc.twP_len _ _
  have HQ := Lib.hid hQ
  have C1 := fun R c1 w hr => qmin_to M i o R n c1 w C K V.out hmi.out hmo.out hlen.out hr HC.out hCK.out
  have C2 := fun R c1 w hr => qmin_to TW i o R N2 c1 w C K VT.out hTi.out hTo.out (by rw [hTr.out, hTl.out]) hr hTq.out hCK.out
  obtain ⟨β, hβ⟩ : ∃ β, decide (K = n) = β := ⟨_, rfl⟩
  have hβ2 : ((K : Int) == n) = β := by
    rw [← hβ]
    by_cases h : K = n
    · rw [h]; simp
    · rw [decide_eq_false h, beq_eq_false_iff_ne]; omega
  have C3 := fun R c1 w hr => qis_at M i o R n c1 w β V.out hmi.out hmo.out hlen.out (by rw [HC.out, hCK.out]; exact hβ) hr
  have C4 := fun (A B : Option Addr) c d w ha hb => rmsame_yes C i o A B K c d w hCi.out hCo.out hCK.out ha hb (by omega) VC.out.rows
  have HT16 := Lib.hid ht
  have HMod : Hid (∀ s : Nat, ((s : Int)).tmod (n : Int) = ((s % n : Nat) : Int)) := fun s => by rw [Int.tmod_eq_emod_of_nonneg (by omega)]; simp
  obtain ⟨k0, hk0, hk1, hk2, hk3⟩ := info_parts edge_info
  obtain ⟨r0, hr0, hr1, hr2, hr3⟩ := info_parts row_info
  have hi1 : 1 ≤ i := by omega
  have hi3 : i ≤ 3 := by omega
  obtain ⟨tl, htl⟩ : ∃ tl, ts.length = tl := ⟨_, rfl⟩
  have HTL := Lib.hid htl
  rw [htl]
  clear hC hK hTW hT hQ hβ ht htl hN2
  clear hM ha hb hd hn hi ho hl hr hE2
  obtain ⟨K0, hK0⟩ : ∃ K0, w.heap.size = K0 := ⟨_, rfl⟩
  have s0 : MT w w [] := MT.start
  have s1 := MT.putK (P := fun w => w.heap[K0]? = some (.cells #[.int .u8 a, .int .u8 b, .int .u8 d, .bool p, .slice A E2 c] 39)) (MT.alloc s0 (.cells #[.int .u8 a, .int .u8 b, .int .u8 d, .bool p, .slice A E2 c] 39))
    (by rw [← hK0]; exact heap_alloc_new w _) (fun _ _ h hb => (hb.block _ (heap_lt h)).trans h)
  clear s0
  go_enter Try.func15, Try.ntmps15
  go_upto_region 1 with fail
  obtain ⟨W0, hW0⟩ : ∃ W0, w.alloc (.cells #[.int .u8 a, .int .u8 b, .int .u8 d, .bool p, .slice A E2 c] 39) = W0 := ⟨_, rfl⟩
  rw [hW0] at s1
  try rw [hW0]
  try rw [hK0]
  clear hW0 hK0
  have kM : W0.cell? ⟨K0, 0, none⟩ = some (.int .u8 a) ∧ W0.cell? ⟨K0, 1, none⟩ = some (.int .u8 b) ∧ W0.cell? ⟨K0, 2, none⟩ = some (.int .u8 d) ∧ W0.cell? ⟨K0, 3, none⟩ = some (.bool p) ∧ W0.cell? ⟨K0, 4, none⟩ = some (.slice A E2 c) := by
    have h1 := MK.get s1 0 rfl
    refine ⟨?_, ?_, ?_, ?_, ?_⟩ <;> (rw [cell_of_row _ _ _ _ _ _ h1]; rfl)
  obtain ⟨c0, c1, c2, c3, c4⟩ := kM
  go_wp2_with fail
  clear c0 c1 c2 c3 c4
  refine (CM _ (HR.out.below s1.2.1)).mono ?_
  rintro e w1 ⟨R, c1, rfl, hrd, hbl⟩
  have s3 := MK.putB (g := w1.heap.size) (MT.alloc (MK.putR (MT.next s1 hbl) hrd) (.cells #[.int .i64 i, .int .i64 o, .slice R n c1] 24)) (heap_alloc_new w1 _)
  clear s1 hrd hbl CM HR
  go_upto_region 2 with fail
  obtain ⟨g, hg⟩ : ∃ g, w1.heap.size = g := ⟨_, rfl⟩
  obtain ⟨W2, hW2⟩ : ∃ W, w1.alloc (.cells #[.int .i64 i, .int .i64 o, .slice R n c1] 24) = W := ⟨_, rfl⟩
  rw [hg, hW2] at s3
  try rw [hg]
  try rw [hW2]
  clear hg hW2
  obtain ⟨m0, m1, m2⟩ := BxM.cells (MK.get s3 0 rfl)
  go_wp2_with fail
  clear m0 m1 m2
  obtain ⟨g0, hg0⟩ : ∃ g, W2.heap.size = g := ⟨_, rfl⟩
  have HG0 := Lib.hid hg0
  try rw [hg0]
  clear hg0
  have S3 := Lib.hid s3
  clear s3
  go_loopw [8] (fun v wr => ∃ (s : Nat) (V : Value) (vs : List Value), s ≤ N2 ∧ v = .int .i64 s ∧ Hid (wr.heap[g0]? = some (.cells #[.int .i64 i, .int .i64 o, V] 24)) ∧ Hid (Bld wr (g0 + 1) V (T.take s) vs) ∧ Below g0 W2 wr) (fun v _ => N2 - (intOf v).toNat)
  case atStart =>
    refine ⟨0, .slice none 0 0, [], Nat.zero_le _, rfl, ?_, Bld.nil_ _ _, (Below.refl _ _).alloc (by rw [HG0.out]; exact Nat.le_refl _) _⟩
    show _ = _
    rw [← HG0.out]
    exact heap_alloc_new W2 _
  case round =>
    obtain ⟨s, X, vs, hs, rfl, hG, hBl, hbr⟩ := hrel
    have hbrw : Below W2.heap.size W2 wr := by rw [HG0.out]; exact hbr
    have hts : (T.take s).length = s := by rw [List.length_take]; have := hTl.out; omega
    obtain ⟨A', c', hV, _, _, _, hRT⟩ := hBl.out.rd
    rw [hts] at hV
    subst hV
    have hGs : g0 + 1 ≤ wr.heap.size := by
      have := heap_lt hG.out
      omega
    by_cases hsl : s < N2
    · have hsk : (s : Int) < N2 := by omega
      have hs12 : s ≤ 12 := by omega
      obtain ⟨q, hq⟩ : ∃ q, s % n = q := ⟨_, rfl⟩
      have hqn : q < n := by rw [← hq]; exact Nat.mod_lt _ (by omega)
      have hqn' : (q : Int) < n := by omega
      have hmod : ((s : Int)).tmod (n : Int) = q := by rw [HMod.out, hq]
      have hmod2 : (s : Int) % (n : Int) = q := by rw [← Int.tmod_eq_emod_of_nonneg (by omega)]; exact hmod
      have hqw : IntKind.i64.wrap (q : Int) = q := IntWalk.i64_in _ (by omega)
      have hn0 : (n : Int) ≠ 0 := by omega
      have hn0' : ¬ (n : Int) = 0 := by omega
      have hn0a : ¬ n = 0 := by omega
      have hn0c : (n == 0) = false := by rw [beq_eq_false_iff_ne]; omega
      have hn0b : ((n : Int) == 0) = false := by rw [beq_eq_false_iff_ne]; omega
      obtain ⟨row, hrow⟩ : ∃ row, M.r[q]? = some row := ⟨_, List.getElem?_eq_getElem (by rw [hlen.out]; exact hqn)⟩
      have hrl : Hid (row.length = i) := by have := V.out.len row (List.mem_of_getElem? hrow); have := hmi.out; show _ = _; omega
      have hTs : Hid (T[s]? = some (Mc.twR M n i ts s)) := hTat.out s hsl
      have HROW := Lib.hid hrow
      have HBRW := Lib.hid hbrw
      have HQS := Lib.hid hq
      obtain ⟨P, hP⟩ : ∃ P, s * i = P := ⟨_, rfl⟩
      have hPI : (s : Int) * (i : Int) = P := by rw [← hP]; simp
      have hP36 : P ≤ 36 := by rw [← hP]; exact Nat.mul_le_mul hs12 hi3
      have HPS := Lib.hid hP
      clear hrow hbrw hq hP
      go_wp2
      obtain ⟨wo, rfl⟩ : ∃ wo : World, wo = wr := ⟨_, rfl⟩
      go_loopw [9, 10] (fun u v wr => ∃ (j : Nat) (xs : List Ed) (U : Value), j ≤ i ∧ v = .int .i64 j ∧ U = u ∧ wr.ownsRow wo.heap.size 26 2 U xs.length (eC xs) ∧ Hid (xs = (Mc.twR M n i ts s).take j) ∧ Hid (0 < j → U ≠ .slice none 0 0) ∧ Below wo.heap.size wo wr) (fun _ v _ => i - (intOf v).toNat)
      case atStart => exact ⟨0, [], _, Nat.zero_le _, rfl, rfl, World.ownsRow_nil _ _ _ _, rfl, (fun h => absurd h (by omega)), Below.refl _ _⟩
      case round =>
        obtain ⟨j, xs, U, hj, rfl, rfl, hown, hxs, hnn, hbr2⟩ := hrel
        have hbr3 : Below W2.heap.size W2 wr := HBRW.out.trans (hbr2.mono (by rw [HG0.out]; omega))
        have sI := MT.next S3.out hbr3
        obtain ⟨x0, x1, x2⟩ := BxM.cells (MK.get sI 0 rfl)
        have hG2 : Hid (wr.heap[g0]? = some (.cells #[.int .i64 i, .int .i64 o, .slice A' s c'] 24)) := (hbr2.block _ (by omega)).trans hG.out
        have hszr := hbr2.size
        have hgl : g < wr.heap.size := heap_lt (show BxM wr g i o R n c1 from MK.get sI 0 rfl)
        by_cases hjl : j < i
        · have hji : (j : Int) < i := by omega
          obtain ⟨br, ofr, Br, cr, nr, row', hRe, hbrl, hcr, _, _, _, hPr, hrl', hrk⟩ := (show RdR wr R M.r from MK.get sI 1 rfl).at_ (k := q) (by rw [hlen.out]; exact hqn)
          subst hRe
          have hro : row' = row := by
            have h1 := hrk.out
            rw [HROW.out] at h1
            injection h1 with h1
            exact h1.symm
          subst hro
          have hnr : nr = i := by rw [← hrl'.out]; exact hrl.out
          subst hnr
          obtain ⟨bx, ox, x, y, rfl, hbxl, hx, hy, hxy⟩ := hPr.at_ (k := j) (by rw [hrl.out]; exact hjl)
          have hxl : Hid (xs.length ≤ 1000000) := by have := hxs.out; show _ ≤ _; rw [this, List.length_take]; omega
          have HXY := Lib.hid hxy.out
          have hok := V.out.ok row' (List.mem_of_getElem? HROW.out) _ (List.mem_of_getElem? HXY.out)
          simp only at hok
          rw [hlen.out] at hok
          have hokx : x = -1 ∨ (0 ≤ x ∧ x < n) := by omega
          have HOK := Lib.hid hokx
          have hTx : Hid (∀ z, Mc.twE n nr ts s j (x, y) = z → xs ++ [z] = (Mc.twR M n nr ts s).take (j + 1)) := fun z hz => by
            rw [List.take_add_one, ← hxs.out, Mc.twR_at (by rw [HQS.out]; exact HROW.out) hjl HXY.out, hz]
            rfl
          obtain ⟨k, hkk⟩ : ∃ k : Nat, P + j = k := ⟨_, rfl⟩
          have hkI : (P : Int) + (j : Int) = k := by rw [← hkk]; simp
          have hk1000 : k ≤ 1000 := by omega
          have HKK := Lib.hid hkk
          clear hkk
          clear hPr hrk hrl' hxy hok hokx
          go_upto_region 11 with fail
          go_cut [11] from 45 to 54 (fun f wx => ∃ G, f = .pointer (some ⟨G, 0, none⟩) ∧ Hid (wx.heap[G]? = some (.cells #[.int .i64 x, .int .i64 y] 26)) ∧ wr.heap.size ≤ G ∧ Below wr.heap.size wr wx)
          case first =>
            have c0 : (wr.alloc (.cells #[.int .i64 0, .int .i64 0] 26)).cell? ⟨g, 2, none⟩ = some (.slice (some ⟨br, ofr, none⟩) n c1) := (World.cell?_alloc_past _ _ _ hgl).trans x2
            have c2 : (wr.alloc (.cells #[.int .i64 0, .int .i64 0] 26)).cell? ⟨br, ofr + q, none⟩ = some (.slice (some ⟨bx, ox, none⟩) nr cr) := (World.cell?_alloc_past _ _ _ hbrl).trans hcr
            have c3 : (wr.alloc (.cells #[.int .i64 0, .int .i64 0] 26)).cell? ⟨bx, ox + j * 2, none⟩ = some (.int .i64 x) := (World.cell?_alloc_past _ _ _ hbxl).trans hx
            have c4 : (wr.alloc (.cells #[.int .i64 0, .int .i64 0] 26)).cell? ⟨bx, ox + j * 2 + 1, none⟩ = some (.int .i64 y) := (World.cell?_alloc_past _ _ _ hbxl).trans hy
            go_region_held3 (fun w' => w'.cell? ⟨g, 2, none⟩ = some (.slice (some ⟨br, ofr, none⟩) n c1) ∧ w'.cell? ⟨br, ofr + q, none⟩ = some (.slice (some ⟨bx, ox, none⟩) nr cr) ∧ w'.cell? ⟨bx, ox + j * 2, none⟩ = some (.int .i64 x) ∧ w'.cell? ⟨bx, ox + j * 2 + 1, none⟩ = some (.int .i64 y)) (first | exact ⟨c0, c2, c3, c4⟩ | exact ⟨x2, hcr, hx, hy⟩ | go_keep) (first | fail)
            all_goals
              go_wp2_with fail
              go_meet
              exact ⟨_, rfl, heap_alloc_new wr _, Nat.le_refl _, ((Below.refl _ _).alloc (Nat.le_refl _) _).drew⟩
          case rest =>
          obtain ⟨G, rfl, hGx, hGw, hbx⟩ := hcut
          have hown1 := own_below hown hbx
          have hbc2 : Below wo.heap.size wo wc := hbr2.trans (hbx.mono hszr)
          have hbc3 : Below W2.heap.size W2 wc := hbr3.trans (hbx.mono hbr3.size)
          have sC := MT.next S3.out hbc3
          obtain ⟨y0, y1, y2⟩ := BxM.cells (MK.get sC 0 rfl)
          have e0 : wc.cell? ⟨G, 0, none⟩ = some (.int .i64 x) := by rw [cell_of_row wc _ _ _ _ _ hGx.out]; rfl
          have e1 : wc.cell? ⟨G, 1, none⟩ = some (.int .i64 y) := by rw [cell_of_row wc _ _ _ _ _ hGx.out]; rfl
          have hszc := hbc2.size
          have hTc := HT16.out.below sC.2.1
          clear sI sC x0 x1 x2 hcr hx hy
          rcases HOK.out with hx1 | ⟨hx1, hx2⟩
          · have hxf : ¬ (0 : Int) ≤ x := by omega
            have hxd : decide (0 ≤ x) = false := decide_eq_false hxf
            have hstep := Lib.hid (hTx.out (x, y) (by unfold Mc.twE; rw [if_neg (fun h => hxf h.1)]))
            clear hown hbr2 hbr3 hbc3 hbx hx1
            go_wp2_with (at_builtin; refine wpList_append_edge _ x y hown1 hxl.out (by omega) hbc2 rfl _ _ rfl rfl rfl ?_)
            intro v1 w1 hown2 hnn1 hbr4
            clear hnn
            go_wp2
            go_roundw
            case rel => exact ⟨j + 1, xs ++ [(x, y)], v1, by omega, by go_num, rfl, by rw [List.length_append]; exact hown2, hstep, fun _ => hnn1, hbr4⟩
            case measure => simp [intOf]; omega
          · have hxd : decide (0 ≤ x) = true := decide_eq_true hx1
            by_cases hkt : k < tl
            · have hktd : decide ((k : Int) < tl) = true := decide_eq_true (by omega)
              have hkti : (k : Int) < tl := by omega
              obtain ⟨b6, o6, z, hTe, hb6, hc6, hz0, hz1, hzz⟩ := hTc.at_ (k := k) (by rw [HTL.out]; exact hkt)
              subst hTe
              have hzt : z.tmod 2 = z % 2 := Int.tmod_eq_emod_of_nonneg hz0
              obtain ⟨r, hr2⟩ : ∃ r, z % 2 = r := ⟨_, rfl⟩
              have hr01 : r = 0 ∨ r = 1 := by omega
              rw [hr2] at hzt
              have hgz : Hid (Go.Proofs.Ytnodnfailjmpeaa.M.gz ts (s * nr + j) % 2 = r) := by
                show _ = _
                rw [HPS.out, HKK.out]
                unfold Go.Proofs.Ytnodnfailjmpeaa.M.gz
                rw [hzz.out]
                exact hr2
              rcases hr01 with rfl | rfl
              · have hstep := Lib.hid (hTx.out (x, y) (by unfold Mc.twE; rw [if_neg (fun h => by have := h.2.2; rw [hgz.out] at this; omega)]))
                clear hown hbr2 hbr3 hbc3 hbx hzz
                go_wp2_with (at_builtin; refine wpList_append_edge _ x y hown1 hxl.out (by omega) hbc2 rfl _ _ rfl rfl rfl ?_)
                intro v1 w1 hown2 hnn1 hbr4
                clear hnn
                go_wp2
                go_roundw
                case rel => exact ⟨j + 1, xs ++ [(x, y)], v1, by omega, by go_num, rfl, by rw [List.length_append]; exact hown2, hstep, fun _ => hnn1, hbr4⟩
                case measure => simp [intOf]; omega
              · have hstep := Lib.hid (hTx.out (x + n, y) (by unfold Mc.twE; rw [if_pos ⟨hx1, by rw [HPS.out, HKK.out, HTL.out]; exact hkt, hgz.out⟩]))
                have hGb : ∀ q, U.ownBlock = some q → q < wr.heap.size := fun q hq => (hown.lt q hq).2
                have hown3 := Lib.hid (hown1.kept (grown_setCell wc ⟨G, 0, none⟩ (.int .i64 (x + n))) (by
                  rcases hv : U.ownBlock with _ | q
                  · exact .inl rfl
                  · refine .inr fun e => ?_
                    have := hGb q hv
                    injection e with e
                    have e2 : q = G := e
                    omega))
                have f0 : wc.frozen? ⟨G, 0, none⟩ = false := by have := hGx.out; simp [World.frozen?, this]
                have hGx2 : Hid ((wc.setCell ⟨G, 0, none⟩ (.int .i64 (x + n))).heap[G]? = some (.cells #[.int .i64 (x + n), .int .i64 y] 26)) := by
                  have := hGx.out
                  show _ = _
                  simp [World.setCell, Array.getElem?_modify, this]
                have hbq := hbc2.setCell (p := ⟨G, 0, none⟩) (by show wo.heap.size ≤ G; omega) (.int .i64 (x + n))
                have hsq := hbq.size
                have k0 : (wc.setCell ⟨G, 0, none⟩ (.int .i64 (x + n))).cell? ⟨G, 0, none⟩ = some (.int .i64 (x + n)) := by rw [cell_of_row _ _ _ _ _ _ hGx2.out]; rfl
                have k1 : (wc.setCell ⟨G, 0, none⟩ (.int .i64 (x + n))).cell? ⟨G, 1, none⟩ = some (.int .i64 y) := by rw [cell_of_row _ _ _ _ _ _ hGx2.out]; rfl
                clear hown hbr2 hbr3 hbc3 hbx hGb hown1 hzz
                go_upto_region 15 with fail
                obtain ⟨W5, hW5⟩ : ∃ W, wc.setCell ⟨G, 0, none⟩ (.int .i64 (x + n)) = W := ⟨_, rfl⟩
                rw [hW5] at hown3 hGx2 hbq hsq k0 k1
                try rw [hW5]
                clear hW5 e0 e1 f0 hc6 y0 y1 y2
                go_wp2_with (at_builtin; refine wpList_append_edge _ (x + n) y hown3.out hxl.out (by omega) hbq rfl _ _ rfl rfl rfl ?_)
                intro v1 w1 hown2 hnn1 hbr4
                clear hnn
                go_wp2
                go_roundw
                case rel => exact ⟨j + 1, xs ++ [((x + n), y)], v1, by omega, by go_num, rfl, by rw [List.length_append]; exact hown2, hstep, fun _ => hnn1, hbr4⟩
                case measure => simp [intOf]; omega
            · have hktd : decide ((k : Int) < tl) = false := decide_eq_false (by omega)
              have hstep := Lib.hid (hTx.out (x, y) (by unfold Mc.twE; rw [if_neg (fun h => hkt (by have := h.2.1; rw [HPS.out, HKK.out, HTL.out] at this; exact this))]))
              clear hown hbr2 hbr3 hbc3 hbx
              go_wp2_with (at_builtin; refine wpList_append_edge _ x y hown1 hxl.out (by omega) hbc2 rfl _ _ rfl rfl rfl ?_)
              intro v1 w1 hown2 hnn1 hbr4
              clear hnn
              go_wp2
              go_roundw
              case rel => exact ⟨j + 1, xs ++ [(x, y)], v1, by omega, by go_num, rfl, by rw [List.length_append]; exact hown2, hstep, fun _ => hnn1, hbr4⟩
              case measure => simp [intOf]; omega
        · have hji : ¬ (j : Int) < i := by omega
          have hje : j = i := by omega
          have g2 : wr.cell? ⟨g0, 2, none⟩ = some (.slice A' s c') := by rw [cell_of_row wr _ _ _ _ _ hG2.out]; rfl
          have hxi : Hid (xs = Mc.twR M n i ts s) := by
            have h := hxs.out
            rw [List.take_of_length_le (by rw [Mc.twR_len]; omega)] at h
            exact h
          have hxl : xs.length = i := by rw [hxi.out]; exact Mc.twR_len
          rw [hxl] at hown
          have HXL := Lib.hid hxl
          clear hxl
          obtain ⟨gq, cq, rfl, hcq⟩ := edge_form hown (hnn.out (by omega))
          have hS1 := Lib.hid (cell_one_new wr (t := 28) (.slice (some ⟨gq, 0, none⟩) i cq))
          have hBr := Lib.hid (hBl.out.below hbr2)
          have hVl : Hid (vs.length = s) := by have := hBl.out.1.1; have := hts; show _ = _; omega
          have hown17 := (hBr.out.1.alloc (.cells #[.slice (some ⟨gq, 0, none⟩) i cq] 28))
          rw [hts] at hown17
          have hS2 : Hid (∀ u ∈ ([.slice (some ⟨gq, 0, none⟩) i cq] : List Value), u.oneCell' = true) := fun u hu => by simp at hu; subst hu; rfl
          have hS3 : s + 1 ≤ maxLen := by unfold maxLen; omega
          have hS4 : (s + 1) * 24 ≤ 140737488355328 := by omega
          have hS5 : g0 + 1 ≤ (wr.alloc (.cells #[.slice (some ⟨gq, 0, none⟩) i cq] 28)).heap.size := by simp; omega
          have hbrg : Below g0 W2 wr := hbr.trans (hbr2.mono (by omega))
          go_wp2_with (at_builtin; refine wpList_append_own _ rfl _ _ 22 rfl (g0 + 1) 28 r0 (.slice none 0 0) 1 24 Try.underlying22 hr0 hr1 hr2 hr3 rfl (by decide) _ _ _ rfl hown17 ⟨wr.heap.size, 0, none⟩ 1 1 [.slice (some ⟨gq, 0, none⟩) i cq] rfl rfl hS1.out hS2.out hS3 hS4 hS5 ?_)
          intro v1 w1 hown1 hg1 hnil1
          have hne : some g0 ≠ (Value.slice A' s c').ownBlock := fun e => by
            have := (hown17.lt _ e.symm).1
            omega
          have hG3 : Hid (w1.heap[g0]? = some (.cells #[.int .i64 i, .int .i64 o, .slice A' s c'] 24)) := by
            show _ = _
            rw [hg1.block g0 (by simp; omega) hne, heap_alloc_old wr _ (by omega)]
            exact hG2.out
          have g3 : w1.cell? ⟨g0, 2, none⟩ = some (.slice A' s c') := by rw [cell_of_row w1 _ _ _ _ _ hG3.out]; rfl
          have f3 : w1.frozen? ⟨g0, 2, none⟩ = false := by have := hG3.out; simp [World.frozen?, this]
          have hpush := hBr.out.push (row := xs) (g := gq) (c := cq) (V1 := v1) (w1 := w1) (o := .cells #[.slice (some ⟨gq, 0, none⟩) i cq] 28) (by unfold OwR; rw [HXL.out]; exact own_base hown (by omega)) (by rw [hts, HXL.out]; exact hown1) hg1
          clear hnil1 hown1
          obtain ⟨A1, c1', rfl, hc1, hc1m, _, _⟩ := hpush.rd
          have hl1 : (T.take s ++ [xs]).length = s + 1 := by rw [List.length_append, hts]; rfl
          rw [hl1] at hpush ⊢
          have hset := hpush.kept (grown_setCell w1 ⟨g0, 2, none⟩ (.slice A1 (s + 1) c1')) (by show g0 < _; omega)
          have hRs : T.take s ++ [xs] = T.take (s + 1) := by rw [List.take_add_one, hTs.out, hxi.out]; rfl
          rw [hRs] at hset
          have hset := Lib.hid hset
          have hG4 : Hid ((w1.setCell ⟨g0, 2, none⟩ (.slice A1 (s + 1) c1')).heap[g0]? = some (.cells #[.int .i64 i, .int .i64 o, .slice A1 (s + 1) c1'] 24)) := by
            have := hG3.out
            show _ = _
            simp [World.setCell, Array.getElem?_modify, this]
          have hbF : Below g0 W2 (w1.setCell ⟨g0, 2, none⟩ (.slice A1 (s + 1) c1')) :=
            ((hbrg.alloc (by omega) (.cells #[.slice (some ⟨gq, 0, none⟩) i cq] 28)).grown hg1 (by simp; omega) (fun j hj => by have := (hown17.lt _ hj).1; omega)).setCell (p := ⟨g0, 2, none⟩) (Nat.le_refl g0) _
          clear hown hg1 hpush hRs hl1 hne hG3 sI
          go_wp2
          go_roundw
          case rel => exact ⟨s + 1, _, _, by omega, by go_num, hG4, hset, hbF⟩
          case measure => simp [intOf]; omega
    · have hsN : N2 = s := by omega
      subst hsN
      have hsl' : ¬ (N2 : Int) < N2 := by omega
      rw [List.take_of_length_le (by rw [hTl.out]; exact Nat.le_refl _), ← hTr.out] at hRT
      have s4 := MK.putB (g := g0) (MK.putR (MT.next S3.out hbrw) hRT) hG.out
      clear S3 hBl hG hRT hbrw hbr
      obtain ⟨m0, m1, m2⟩ := BxM.cells (MK.get s4 2 rfl)
      go_wp2_with fail
      clear m0 m1 m2
      refine (C1 R c1 _ (MK.get s4 3 rfl)).mono ?_
      rintro e w5 ⟨P1, rfl, hX, hbl⟩
      have s5 := MK.putB (g := w5.heap.size) (MT.alloc (MK.putX9 (MT.next s4 hbl) hX) (.cells #[.int .i64 i, .int .i64 o, .slice (some ⟨P1, 0, none⟩) K K] 24)) (heap_alloc_new w5 _)
      clear s4 hX hbl C1
      go_upto_region 18 with fail
      obtain ⟨ga, hga⟩ : ∃ g, w5.heap.size = g := ⟨_, rfl⟩
      obtain ⟨W6, hW6⟩ : ∃ W, w5.alloc (.cells #[.int .i64 i, .int .i64 o, .slice (some ⟨P1, 0, none⟩) K K] 24) = W := ⟨_, rfl⟩
      rw [hga, hW6] at s5
      try rw [hga]
      try rw [hW6]
      clear hga hW6
      obtain ⟨m0, m1, m2⟩ := BxM.cells (MK.get s5 2 rfl)
      go_wp2_with fail
      clear m0 m1 m2
      refine (C2 A' c' _ (MK.get s5 3 rfl)).mono ?_
      rintro e w7 ⟨P2, rfl, hX, hbl⟩
      have s6 := MK.putB (g := w7.heap.size) (MT.alloc (MK.putX9 (MT.next s5 hbl) hX) (.cells #[.int .i64 i, .int .i64 o, .slice (some ⟨P2, 0, none⟩) K K] 24)) (heap_alloc_new w7 _)
      clear s5 hX hbl C2
      go_upto_region 19 with fail
      obtain ⟨gb, hgb⟩ : ∃ g, w7.heap.size = g := ⟨_, rfl⟩
      obtain ⟨W8, hW8⟩ : ∃ W, w7.alloc (.cells #[.int .i64 i, .int .i64 o, .slice (some ⟨P2, 0, none⟩) K K] 24) = W := ⟨_, rfl⟩
      rw [hgb, hW8] at s6
      try rw [hgb]
      try rw [hW8]
      clear hgb hW8
      obtain ⟨m0, m1, m2⟩ := BxM.cells (MK.get s6 6 rfl)
      go_wp2_with fail
      clear m0 m1 m2
      refine (C3 R c1 _ (MK.get s6 7 rfl)).mono ?_
      rintro e w9 ⟨rfl, hbl⟩
      have s7 := MT.next s6 hbl
      clear s6 hbl C3
      obtain ⟨m0, m1, m2⟩ := BxM.cells (MK.get s7 0 rfl)
      obtain ⟨m3, m4, m5⟩ := BxM.cells (MK.get s7 2 rfl)
      have hKd : decide ((n : Int) < K) = false := decide_eq_false (by omega)
      have hKi : ¬ (n : Int) < K := by omega
      have hKd2 : decide (n < K) = false := decide_eq_false (by omega)
      have hKi2 : ¬ n < K := by omega
      have hbb : (β != β) = false := by simp
      go_wp2_with fail
      clear m0 m1 m2 m3 m4 m5
      refine (C4 (some ⟨P1, 0, none⟩) (some ⟨P2, 0, none⟩) K K _ (Ex.rd (MK.get s7 3 rfl)) (Ex.rd (MK.get s7 1 rfl))).mono ?_
      rintro e w10 ⟨rfl, hbl⟩
      have s8 := MT.next s7 hbl
      clear s7 hbl C4
      obtain ⟨m3, m4, m5⟩ := BxM.cells (MK.get s8 2 rfl)
      go_wp2_with fail
      clear m3 m4 m5 hβ2 hbb hKd hKi hKd2 hKi2
      have S8 := Lib.hid s8
      clear s8
      go_loopw [19, 20] (fun u v wr => ∃ (k : Nat) (U : Value), k ≤ N2 ∧ v = .int .i64 k ∧ U = u ∧ Hid (OwI wr w10.heap.size U (Mc.twP n k)) ∧ Hid (Below w10.heap.size w10 wr)) (fun _ v _ => N2 - (intOf v).toNat)
      case atStart => exact ⟨0, _, Nat.zero_le _, rfl, rfl, OwI.nil_ _ _, Below.refl _ _⟩
      case round =>
        obtain ⟨k, U, hk, rfl, rfl, hO, hbk⟩ := hrel
        by_cases hkN : k < N2
        · have hkN' : (k : Int) < N2 := by omega
          obtain ⟨q, hq⟩ : ∃ q, k % n = q := ⟨_, rfl⟩
          have hqn : q < n := by rw [← hq]; exact Nat.mod_lt _ (by omega)
          have hmod : ((k : Int)).tmod (n : Int) = q := by rw [HMod.out, hq]
          have hmod2 : (k : Int) % (n : Int) = q := by rw [← Int.tmod_eq_emod_of_nonneg (by omega)]; exact hmod
          have hqw : IntKind.i64.wrap (q : Int) = q := IntWalk.i64_in _ (by omega)
          have hn0 : (n : Int) ≠ 0 := by omega
          have hn0' : ¬ (n : Int) = 0 := by omega
          have hn0a : ¬ n = 0 := by omega
          have hn0b : ((n : Int) == 0) = false := by rw [beq_eq_false_iff_ne]; omega
          have hst : Hid (Mc.twP n (k + 1) = Mc.twP n k ++ [(q : Int)]) := by show _ = _; rw [Mc.twP_snoc, hq]
          have hown := (hO.out).alloc (.cells #[.int .i64 q] 3)
          have hS1 : Hid (Rd (wr.alloc (.cells #[.int .i64 q] 3)) (some ⟨wr.heap.size, 0, none⟩) [(q : Int)]) := Rd.of_block (t := 3) (heap_alloc_new wr _)
          have hsz := hbk.out.size
          have hb9 := hbk.out.alloc hsz (.cells #[.int .i64 q] 3)
          have hpl := Mc.twP_len n k
          clear hq hO hbk
          go_wp2_with (at_builtin; refine wpList_append_list _ (W0 := w10) (B := w10.heap.size) (xs := Mc.twP n k) (ys := [(q : Int)]) hown hS1.out rfl (by simp; omega) (by simp; omega) hb9 rfl _ _ rfl rfl rfl ?_)
          intro v3 w11 hown3 hb3
          rw [← hst.out] at hown3
          have HO3 := Lib.hid hown3
          have HB3 := Lib.hid hb3
          clear hown3 hb3 hown hb9 hpl hmod hmod2
          go_wp2
          go_roundw
          case rel => exact ⟨k + 1, v3, by omega, by go_num, rfl, HO3, HB3⟩
          case measure => simp [intOf]; omega
        · have hkN3 : N2 = k := by omega
          subst hkN3
          have hkN' : ¬ (N2 : Int) < N2 := by omega
          obtain ⟨FA, fc, rfl, _⟩ := own_formI hO.out
          have hFr : Rd wr FA Q := by rw [← HQ.out]; exact Rd.of_own hO.out
          rw [Mc.twP_len]
          have s9 := MK.putL (MT.next S8.out hbk.out) hFr
          clear S8 hO hbk hFr
          obtain ⟨m0, m1, m2⟩ := BxM.cells (MK.get s9 5 rfl)
          obtain ⟨m3, m4, m5⟩ := BxM.cells (MK.get s9 7 rfl)
          go_wp2_with fail
          clear m0 m1 m2 m3 m4 m5
          refine (qhom_to TW M i o o A' R N2 c' n c1 FA fc Q _ true VT.out V.out hTi.out hTo.out hmi.out hmo.out (MK.get s9 6 rfl) (MK.get s9 8 rfl) (by rw [hTr.out, hTl.out]) hlen.out (MK.get s9 0 rfl) hQl.out hQr.out ⟨fun _ => hHom.out, fun _ => rfl⟩).mono ?_
          rintro e w12 ⟨rfl, hbl⟩
          have hF := Lib.hid (MT.next s9 hbl).2.1
          clear s9 hbl
          go_wp2_with fail
          refine (qlives_walk _).mono ?_
          rintro e w13 ⟨rfl, hbl⟩
          have hfin := Lib.hid (below_next hF.out hbl)
          clear hF hbl
          go_wp2_with fail
          go_ret
          exact ⟨rfl, hfin.out⟩
end Go.Proofs.Ytnodnfailjmpeaa
