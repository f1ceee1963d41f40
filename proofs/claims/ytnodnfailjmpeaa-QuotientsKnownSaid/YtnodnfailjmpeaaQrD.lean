/-
  Several texts in one: QK, Qr7, Qr4, Qr5. No statement is proved here.
-/
import Derived.Test.YtnodnfailjmpeaaQr0
import Derived.Test.YtnodnfailjmpeaaQrC
import Derived.Test.YtnodnfailjmpeaaSMdZ
namespace Go.Proofs.Ytnodnfailjmpeaa
open Go.RowKit
open Mc (Ed Ma)

namespace Mc
theorem cmp_nx9 {m : Ma} (v : Val m) (hc : ((dfd m.r : Int) == m.r.length * m.i) = true) {s c : Nat} (hs : s < m.r.length) (hi : (c : Int) < m.i) : 0 ≤ (nx m s c).1 := by
  have h1 : cmpV m = true := by unfold cmpV; rw [if_pos (chk_of v)]; exact hc
  rw [cmp_all v, List.all_eq_true] at h1
  have hrow := v.len m.r[s] (List.getElem_mem hs)
  have hil : c < (m.r[s]).length := by omega
  rw [nx_at (List.getElem?_eq_getElem hs) (List.getElem?_eq_getElem hil)]
  have := h1 _ (List.mem_of_getElem? (pl_at (List.getElem?_eq_getElem hs) (List.getElem?_eq_getElem hil)))
  simpa using this
theorem qn_full {m : Ma} (v : Val m) (hc : ((dfd m.r : Int) == m.r.length * m.i) = true) : cmpV (qn m) = true := by
  have h := ord_ord v
  have C := h.cls v
  have vq := qn_val v
  obtain ⟨i, hie⟩ := Int.eq_ofNat_of_zero_le (show 0 ≤ m.i by have := v.i0; omega)
  have hd : dfd (qn m).r = (qn m).r.length * i := dfd_full fun row hrow => by
    refine ⟨by have := vq.len row hrow; rw [qn_i, hie] at this; omega, fun x hx => ?_⟩
    obtain ⟨s, hs, rfl⟩ := List.mem_map.1 (show row ∈ (fst_ m (ord m)).map _ from hrow)
    obtain ⟨y, hy, rfl⟩ := List.mem_map.1 hx
    have hsL := fst_mem hs
    have hsr := C.rg s hsL
    obtain ⟨s', rfl⟩ := Int.eq_ofNat_of_zero_le hsr.1
    have hl : s' < m.r.length := by omega
    rw [Int.toNat_natCast, List.getElem?_eq_getElem hl, Option.getD_some] at hy
    obtain ⟨c, hc'⟩ := List.mem_iff_getElem?.1 hy
    have hcl := (List.getElem?_eq_some_iff.1 hc').1
    have hw := v.len _ (List.getElem_mem hl)
    have e : nx m (s' : Int) c = y := nx_at (List.getElem?_eq_getElem hl) hc'
    have hci : (c : Int) < m.i := by omega
    have h0 : 0 ≤ (nx m (s' : Int) c).1 := cmp_nx9 v hc hl hci
    have hin := C.cl s' hsL c (by omega) hci h0
    rw [e] at hin
    obtain ⟨k, f, h1, _⟩ := (fst_qt v C).at_ y.1 hin
    show 0 ≤ mpg m (ord m) y.1
    rw [h1]
    omega
  unfold cmpV
  rw [if_pos (chk_of vq), hd, qn_i, hie]
  simp
/-- A proper machine of one to five states. -/
structure Km (i o : Nat) (m : Ma) : Prop where
  val : Val m
  inp : m.i = i
  out : m.o = o
  len : m.r.length ≤ 5
  own : qn m = m
  prp : prp m = 0
theorem Cm.km {n i o : Nat} {m : Ma} (h : Cm n i o m) (hn : n ≤ 5) : Km i o (qn m) where
  val := qn_val h.val
  inp := by rw [qn_i]; exact h.inp
  out := by rw [qn_o]; exact h.out
  len := by
    have h1 := qn_le h.val
    have h2 := h.len
    omega
  own := qn_own h.val
  prp := prp_qn h.val (qn_full h.val (by rw [h.all, h.len, h.inp]; simp))
end Mc
/-- What Of hands back. -/
def KofP (w : World) (i o : Nat) (e : Ending) (w' : World) : Prop := ∃ m B k d vs, e = .returned (.agg #[.int .i64 i, .int .i64 o, .slice B k d]) ∧ Hid (Mc.Km i o m) ∧ Hid (m.r.length = k) ∧ Hid (Bld w' w.heap.size (.slice B k d) m.r vs) ∧ Below w.heap.size w w'
set_option maxRecDepth 100000 in
set_option maxHeartbeats 2000000 in
theorem kof9_any (a b d : Int) (T : Option Addr) (tc : Nat) (ts : List Int) (A : Option Addr) (c : Nat) (es : List Int) (i o : Nat) (w : World) (hr8 : Rd8 w T ts) (hr : Rd16 w A es) (htl : ts.length ≤ 9223372036854775807) (ha : 0 ≤ a ∧ a ≤ 255) (hb : 0 ≤ b ∧ b ≤ 255) (hd : 0 ≤ d ∧ d ≤ 255)
    (hi : 1 + b % 3 = i) (ho : 1 + d % 3 = o) :
    Calls Try.prog 52 #[.agg #[.int .u8 a, .int .u8 b, .int .u8 d, .slice T ts.length tc, .slice A es.length c]] w (KofP w i o) := by
  obtain ⟨a', ha5⟩ : ∃ a', a % 5 = a' := ⟨_, rfl⟩
  obtain ⟨n, hn⟩ : ∃ n : Nat, 1 + a' % 6 = n := ⟨(1 + a' % 6).toNat, by omega⟩
  have hn5 : Hid (n ≤ 5) := by show n ≤ 5; omega
  have C1 := Lib.hid (fun w hr8 hr => cof_own a' b d T tc ts A c es n i o w hr8 hr htl (by omega) hb hd hn hi ho)
  obtain ⟨F, hF⟩ : ∃ F, es.length = F := ⟨_, rfl⟩
  obtain ⟨G, hG⟩ : ∃ G, ts.length = G := ⟨_, rfl⟩
  have HR := Lib.hid hr
  have HR8 := Lib.hid hr8
  rw [hF, hG] at C1 ⊢
  clear hF hG hr hr8 hb hd hn hi ho htl
  obtain ⟨a1, a2⟩ := ha
  obtain ⟨K0, hK0⟩ : ∃ K0, w.heap.size = K0 := ⟨_, rfl⟩
  go_enter Try.func52, Try.ntmps52
  go_wp2_with fail
  obtain ⟨w0, hw0⟩ : ∃ w0, (w.alloc (.cells #[.int .u8 a', .int .u8 b, .int .u8 d, .slice T G tc, .slice A F c] 51)).alloc (.cells #[.int .i64 0, .int .i64 0, .slice none 0 0] 24) = w0 := ⟨_, rfl⟩
  have hb0 : Below w.heap.size w w0 := by rw [← hw0]; exact ((Below.refl _ _).alloc (Nat.le_refl _) _).alloc (by simp) _
  have hZ0 : BxM w0 (K0 + 1) 0 0 none 0 0 := by
    have h := BxM.new (w.alloc (.cells #[.int .u8 a', .int .u8 b, .int .u8 d, .slice T G tc, .slice A F c] 51)) 0 0 none 0 0
    rw [World.size_alloc, hK0] at h
    rw [← hw0]
    exact h
  rw [hw0]
  have hsz : K0 + 2 ≤ w0.heap.size := by rw [← hw0]; simp; omega
  clear hw0
  refine (C1.out _ (HR8.out.below hb0) (HR.out.below hb0)).mono ?_
  rintro e w1 ⟨N, B, k, vs, rfl, hC, hB, hb1⟩
  have C2 := rqmin_any N i o B n k w1 hC.out.val hC.out.inp hC.out.out hC.out.len hB.out.two
  have hsz1 : K0 + 2 ≤ w1.heap.size := Nat.le_trans hsz hb1.size
  have hZ1 := hZ0.mvB hb1
  have hbw := below_next hb0 hb1
  have HKm := Lib.hid (hC.out.km hn5.out)
  clear C1 HR8 HR hB hb0 hb1 hZ0 hsz hC
  go_wp2_with fail
  refine C2.mono ?_
  rintro e w2 ⟨V, us, rfl, hk, hb2⟩
  obtain ⟨B2, d2, rfl, _⟩ := hk.rd
  obtain ⟨K, hK⟩ : ∃ K, (Mc.qn N).r.length = K := ⟨_, rfl⟩
  rw [hK] at hk ⊢
  have hzr := hZ1.mvB hb2
  obtain ⟨e0, e1, e2⟩ := hzr.cells
  obtain ⟨f0, f1, f2⟩ := hzr.frozen
  obtain ⟨s0, s1, s2⟩ := set3_reads hzr (.int .i64 i) (.int .i64 o) (.slice B2 K d2)
  have hfin : Hid (KofP w i o (.returned (.agg #[.int .i64 i, .int .i64 o, .slice B2 K d2])) (((w2.setCell ⟨K0 + 1, 0, none⟩ (.int .i64 i)).setCell ⟨K0 + 1, 1, none⟩ (.int .i64 o)).setCell ⟨K0 + 1, 2, none⟩ (.slice B2 K d2))) :=
    ⟨Mc.qn N, B2, K, d2, us, rfl, HKm, hK, (hk.set3 (g := K0 + 1) (by omega) _ _ _).base (by have := hbw.size; omega), below_set3' (below_next hbw hb2) (by omega) _ _ _⟩
  clear hk hzr hZ1 hbw hb2 C2 HKm hK hsz1 hn5
  go_wp2
  refine bodyPost_ret (v := .agg #[.int .i64 i, .int .i64 o, .slice B2 K d2]) (by simp [results, Try.f52, go_sem, s0, s1, s2]) rfl ?_
  exact hfin.out
end Go.Proofs.Ytnodnfailjmpeaa

namespace Go.Proofs.Ytnodnfailjmpeaa
open Go.RowKit
open Mc (Ed Ma)

set_option maxRecDepth 100000 in
set_option maxHeartbeats 4000000 in
theorem lawQK_walk (a b d : Int) (T : Option Addr) (tc : Nat) (ts : List Int) (A : Option Addr) (c : Nat) (es : List Int) (w : World) (hr8 : Rd8 w T ts) (hr : Rd16 w A es) (htl : ts.length ≤ 9223372036854775807) (hle : es.length ≤ 9223372036854775807)
    (ha : 0 ≤ a ∧ a ≤ 255) (hb : 0 ≤ b ∧ b ≤ 255) (hd : 0 ≤ d ∧ d ≤ 255) :
    Calls Try.prog 18 #[.agg #[.int .u8 a, .int .u8 b, .int .u8 d, .slice T ts.length tc, .slice A es.length c]] w fun e w' => e = .returned (.bool true) ∧ Below w.heap.size w w' := by
  have _ := hle
  clear hle
  obtain ⟨i, hi⟩ : ∃ i : Nat, 1 + b % 3 = i := ⟨(1 + b % 3).toNat, by omega⟩
  obtain ⟨o, ho⟩ : ∃ o : Nat, 1 + d % 3 = o := ⟨(1 + d % 3).toNat, by omega⟩
  have C1 := Lib.hid (fun w hr8 hr => kof9_any a b d T tc ts A c es i o w hr8 hr htl ha hb hd hi ho)
  obtain ⟨F, hF⟩ : ∃ F, es.length = F := ⟨_, rfl⟩
  obtain ⟨G, hG⟩ : ∃ G, ts.length = G := ⟨_, rfl⟩
  have HR := Lib.hid hr
  have HR8 := Lib.hid hr8
  rw [hF, hG] at C1 ⊢
  clear hF hG hr hr8 ha hb hd hi ho htl
  have hb0 : Below w.heap.size w (w.alloc (.cells #[.int .u8 a, .int .u8 b, .int .u8 d, .slice T G tc, .slice A F c] 51)) := (Below.refl _ _).alloc (Nat.le_refl _) _
  have s0 : MT w w [] := MT.start
  have s1 := MT.alloc s0 (.cells #[.int .u8 a, .int .u8 b, .int .u8 d, .slice T G tc, .slice A F c] 51)
  clear s0
  go_enter Try.func18, Try.ntmps18
  go_wp2_with fail
  refine (C1.out _ (HR8.out.below hb0) (HR.out.below hb0)).mono ?_
  rintro e w1 ⟨m, B, k, q, vs, rfl, hKm, hk, hB, hb1⟩
  have s2 := MK.putB (g := w1.heap.size) (MT.alloc (MK.putR (MT.next s1 hb1) hB.out.two) (.cells #[.int .i64 i, .int .i64 o, .slice B k q] 24)) (heap_alloc_new w1 _)
  clear s1 hB hb0 hb1 C1 HR HR8
  go_upto_region 2 with fail
  obtain ⟨g1, hg1⟩ : ∃ g, w1.heap.size = g := ⟨_, rfl⟩
  obtain ⟨W1, hW1⟩ : ∃ W, w1.alloc (.cells #[.int .i64 i, .int .i64 o, .slice B k q] 24) = W := ⟨_, rfl⟩
  rw [hg1, hW1] at s2
  try rw [hg1]
  try rw [hW1]
  clear hg1 hW1
  have C2 := Lib.hid (fun w hr => qmin_to m i o B k q w m k hKm.out.val hKm.out.inp hKm.out.out hk.out hr hKm.out.own hk.out)
  have C3 := Lib.hid (fun w hr => qproper_at m i o B k q w 0 hKm.out.val hKm.out.inp hKm.out.out hk.out hKm.out.prp hr)
  have C4 := Lib.hid (fun w hr => rproper_any m B q w i o k 0 hKm.out.val hKm.out.inp hKm.out.out hk.out (by rw [← Mc.prp_prR hKm.out.val]; exact hKm.out.prp) hr)
  have hk5 : k ≤ 5 := by rw [← hk.out]; exact hKm.out.len
  obtain ⟨q0, q1, q2⟩ := BxM.cells (MK.get s2 0 rfl)
  go_wp2_with fail
  refine (C2.out _ (MK.get s2 1 rfl)).mono ?_
  rintro e w2 ⟨p, rfl, hX, hb2⟩
  have s3 := MK.putB (g := w2.heap.size) (MT.alloc (MK.putX9 (MT.next s2 hb2) hX) (.cells #[.int .i64 i, .int .i64 o, .slice (some ⟨p, 0, none⟩) k k] 24)) (heap_alloc_new w2 _)
  clear s2 hX hb2 C2 q0 q1 q2
  go_upto_region 3 with fail
  obtain ⟨g2, hg2⟩ : ∃ g, w2.heap.size = g := ⟨_, rfl⟩
  obtain ⟨W2, hW2⟩ : ∃ W, w2.alloc (.cells #[.int .i64 i, .int .i64 o, .slice (some ⟨p, 0, none⟩) k k] 24) = W := ⟨_, rfl⟩
  rw [hg2, hW2] at s3
  try rw [hg2]
  try rw [hW2]
  clear hg2 hW2
  have hk5' : decide ((k : Int) ≤ 5) = true := decide_eq_true (by omega)
  have hk5i : (k : Int) ≤ 5 := by omega
  clear hk5
  obtain ⟨q0, q1, q2⟩ := BxM.cells (MK.get s3 2 rfl)
  go_wp2_with fail
  refine (C3.out _ (MK.get s3 3 rfl)).mono ?_
  rintro e w3 ⟨rfl, hb3⟩
  have s4 := MT.next s3 hb3
  clear s3 hb3 q0 q1 q2 C3
  obtain ⟨q0, q1, q2⟩ := BxM.cells (MK.get s4 2 rfl)
  go_wp2_with fail
  refine (C4.out _ (MK.get s4 3 rfl)).mono ?_
  rintro e w4 ⟨rfl, hb4⟩
  have s5 := MT.next s4 hb4
  clear s4 hb4 q0 q1 q2 C4
  obtain ⟨q0, q1, q2⟩ := BxM.cells (MK.get s5 2 rfl)
  obtain ⟨q3, q4, q5⟩ := BxM.cells (MK.get s5 0 rfl)
  go_wp2_with fail
  refine (qmachine_yes i o m.r p k q B _ (MK.get s5 1 rfl) (MK.get s5 3 rfl)).mono ?_
  rintro e w5 ⟨rfl, hb5⟩
  have s6 := MT.next s5 hb5
  clear s5 hb5 q0 q1 q2 q3 q4 q5
  go_wp2_with fail
  refine (qlives_walk _).mono ?_
  rintro e w6 ⟨rfl, hb6⟩
  have hfin := Lib.hid (MT.next s6 hb6).2.1
  clear s6 hb6
  go_wp2_with fail
  go_ret
  exact ⟨rfl, hfin.out⟩
end Go.Proofs.Ytnodnfailjmpeaa

namespace Go.Proofs.Ytnodnfailjmpeaa
open Go.RowKit
open Mc (Ed Ma)

namespace Mc
/-- The number of classes, and whether two states are in one. -/
theorem cnt_full {p : List Int} : ∀ k, k ≤ p.length → (Go.Proofs.Ytnodnfailjmpeaa.M.cnt (p.take k) = k ↔ ∀ s t, t < s → s < k → Go.Proofs.Ytnodnfailjmpeaa.M.gz p s ≠ Go.Proofs.Ytnodnfailjmpeaa.M.gz p t)
  | 0, _ => ⟨fun _ s t _ h => absurd h (Nat.not_lt_zero _), fun _ => by rw [List.take_zero, Go.Proofs.Ytnodnfailjmpeaa.M.cnt_nil]⟩
  | k + 1, hk => by
    have ih := cnt_full (p := p) k (by omega)
    have hle := Go.Proofs.Ytnodnfailjmpeaa.M.cnt_take_le p k
    by_cases h : ∃ t, t < k ∧ Go.Proofs.Ytnodnfailjmpeaa.M.gz p k = Go.Proofs.Ytnodnfailjmpeaa.M.gz p t
    · obtain ⟨t, ht, e⟩ := h
      rw [prt_cnt_old (p := p) (s := k) (by omega) ht e]
      constructor
      · intro h2; omega
      · intro h2; exact absurd e (h2 k t ht (by omega))
    · have hn : ∀ t, t < k → Go.Proofs.Ytnodnfailjmpeaa.M.gz p k ≠ Go.Proofs.Ytnodnfailjmpeaa.M.gz p t := fun t ht e => h ⟨t, ht, e⟩
      rw [prt_cnt_new (p := p) (s := k) (by omega) hn]
      constructor
      · intro h2 s t h3 h4
        rcases Nat.lt_or_ge s k with h5 | h5
        · exact ih.1 (by omega) s t h3 h5
        · obtain rfl : s = k := by omega
          exact hn t h3
      · intro h2
        have := ih.2 fun s t h3 h4 => h2 s t h3 (by omega)
        omega
/-- One class more, or the same number. -/
theorem cnt_max {p : List Int} (hv : Go.Proofs.Ytnodnfailjmpeaa.M.Vd p) {k : Nat} (hk : k < p.length) : max ((Go.Proofs.Ytnodnfailjmpeaa.M.cnt (p.take k) : Nat) : Int) (Go.Proofs.Ytnodnfailjmpeaa.M.gz p k + 1) = ((Go.Proofs.Ytnodnfailjmpeaa.M.cnt (p.take (k + 1)) : Nat) : Int) := by
  by_cases h : ∃ t, t < k ∧ Go.Proofs.Ytnodnfailjmpeaa.M.gz p k = Go.Proofs.Ytnodnfailjmpeaa.M.gz p t
  · obtain ⟨t, ht, e⟩ := h
    rw [prt_cnt_old hk ht e]
    have h1 := (hv.take k).bound (z := Go.Proofs.Ytnodnfailjmpeaa.M.gz p t) (by
      rw [← Go.Proofs.Ytnodnfailjmpeaa.M.gz_take (k := k) ht]
      exact Go.Proofs.Ytnodnfailjmpeaa.M.gz_mem (by rw [List.length_take]; omega))
    rw [e]
    omega
  · have hn : ∀ t, t < k → Go.Proofs.Ytnodnfailjmpeaa.M.gz p k ≠ Go.Proofs.Ytnodnfailjmpeaa.M.gz p t := fun t ht e => h ⟨t, ht, e⟩
    rw [prt_cnt_new hk hn, prt_new hv hk hn]
    omega
/-- Minimal: connected, and as many classes as states. -/
theorem min_cnt {m : Ma} (v : Val m) {n : Nat} (hn : m.r.length = n) : decide ((qn m).r.length = n) = (conn m && decide (Go.Proofs.Ytnodnfailjmpeaa.M.cnt (cls m) = n)) := by
  subst hn
  by_cases hc : conn m = true
  · rw [hc, Bool.true_and]
    refine decide_eq_decide.2 ?_
    have h1 := cnt_full (p := cls m) m.r.length (by rw [cls_len]; exact Nat.le_refl _)
    rw [List.take_of_length_le (by rw [cls_len]; exact Nat.le_refl _)] at h1
    rw [min_len v hc, h1]
    constructor
    · intro h s t h2 h3 e
      have := h s t h3 (by omega) e
      omega
    · intro h s t hs ht e
      rcases Nat.lt_trichotomy s t with h3 | h3 | h3
      · exact absurd e.symm (h t s h3 ht)
      · exact h3
      · exact absurd e (h s t h3 hs)
  · have : decide ((qn m).r.length = m.r.length) = false := decide_eq_false fun h => hc (min_conn v h)
    rw [this]
    cases h : conn m with
    | false => rfl
    | true => exact absurd h hc
end Mc
set_option maxRecDepth 100000 in
set_option maxHeartbeats 8000000 in
theorem lawQPrp_walk (a b d : Int) (p : Bool) (A : Option Addr) (c : Nat) (es : List Int) (a' b' d' : Int) (T : Option Addr) (tc : Nat) (ts : List Int) (A' : Option Addr) (c' : Nat) (es' : List Int) (w : World)
    (hr : Rd16 w A es) (hr8 : Rd8 w T ts) (hr' : Rd16 w A' es') (hl : es.length ≤ 9223372036854775807) (htl : ts.length ≤ 9223372036854775807)
    (ha : 0 ≤ a ∧ a ≤ 255) (hb : 0 ≤ b ∧ b ≤ 255) (hd : 0 ≤ d ∧ d ≤ 255) (ha' : 0 ≤ a' ∧ a' ≤ 255) (hb' : 0 ≤ b' ∧ b' ≤ 255) (hd' : 0 ≤ d' ∧ d' ≤ 255) :
    Calls Try.prog 16 #[.agg #[.int .u8 a, .int .u8 b, .int .u8 d, .bool p, .slice A es.length c], .agg #[.int .u8 a', .int .u8 b', .int .u8 d', .slice T ts.length tc, .slice A' es'.length c']] w fun e w' => e = .returned (.bool true) ∧ Below w.heap.size w w' := by
  obtain ⟨n, hn⟩ : ∃ n : Nat, 1 + a % 6 = n := ⟨(1 + a % 6).toNat, by omega⟩
  obtain ⟨i, hi⟩ : ∃ i : Nat, 1 + b % 3 = i := ⟨(1 + b % 3).toNat, by omega⟩
  obtain ⟨o, ho⟩ : ∃ o : Nat, 1 + d % 3 = o := ⟨(1 + d % 3).toNat, by omega⟩
  obtain ⟨n', hn'⟩ : ∃ n' : Nat, 1 + a' % 6 = n' := ⟨(1 + a' % 6).toNat, by omega⟩
  obtain ⟨i', hi'⟩ : ∃ i' : Nat, 1 + b' % 3 = i' := ⟨(1 + b' % 3).toNat, by omega⟩
  obtain ⟨o', ho'⟩ : ∃ o' : Nat, 1 + d' % 3 = o' := ⟨(1 + d' % 3).toNat, by omega⟩
  have CM := fun w hr => mofB_at a b d p A c es n i o w hr hl ha hb hd hn hi ho
  have CN := fun w hr8 hr => cof_own a' b' d' T tc ts A' c' es' n' i' o' w hr8 hr htl ha' hb' hd' hn' hi' ho'
  have hn6 : n ≤ 6 := by omega
  have hn1 : 1 ≤ n := by omega
  have hn6' : n' ≤ 6 := by omega
  have V := Lib.hid (Mc.mkN_val (p := p) (n := n) (i := i) (o := o) (es := es) (by omega) (by omega) (by omega) (by omega) (by omega) (by omega))
  have hlen : Hid ((Mc.mkN p n i o es).r.length = n) := Mc.mkN_len _ _ _ _ _
  have hmi : Hid ((Mc.mkN p n i o es).i = i) := rfl
  have hmo : Hid ((Mc.mkN p n i o es).o = o) := rfl
  obtain ⟨M, hM⟩ : ∃ M, Mc.mkN p n i o es = M := ⟨_, rfl⟩
  rw [hM] at V hlen hmi hmo
  simp only [hM] at CM
  clear hM ha hb hd hn hi ho hl ha' hb' hd' hn' hi' ho' htl
  have HR := Lib.hid hr
  have HR8 := Lib.hid hr8
  have HR' := Lib.hid hr'
  obtain ⟨E1, hE1⟩ : ∃ E, es.length = E := ⟨_, rfl⟩
  obtain ⟨E2, hE2⟩ : ∃ E, es'.length = E := ⟨_, rfl⟩
  obtain ⟨F1, hF1⟩ : ∃ E, ts.length = E := ⟨_, rfl⟩
  simp only [hE1] at CM
  simp only [hE2, hF1] at CN
  rw [hE1, hE2, hF1]
  clear hr hr' hr8 hE1 hE2 hF1
  obtain ⟨K0, hK0⟩ : ∃ K0, w.heap.size = K0 := ⟨_, rfl⟩
  have s0 : MT w w [] := MT.start
  have s1 := MT.putK (P := fun w => w.heap[K0]? = some (.cells #[.int .u8 a, .int .u8 b, .int .u8 d, .bool p, .slice A E1 c] 39)) (MT.alloc s0 (.cells #[.int .u8 a, .int .u8 b, .int .u8 d, .bool p, .slice A E1 c] 39))
    (by
      have h := heap_alloc_new w (.cells #[.int .u8 a, .int .u8 b, .int .u8 d, .bool p, .slice A E1 c] 39)
      rw [hK0] at h
      exact h) (fun _ _ h hb => (hb.block _ (heap_lt h)).trans h)
  have s2 := MT.putK (P := fun w => w.heap[K0 + 1]? = some (.cells #[.int .u8 a', .int .u8 b', .int .u8 d', .slice T F1 tc, .slice A' E2 c'] 43)) (MT.alloc s1 (.cells #[.int .u8 a', .int .u8 b', .int .u8 d', .slice T F1 tc, .slice A' E2 c'] 43))
    (by
      have h := heap_alloc_new (w.alloc (.cells #[.int .u8 a, .int .u8 b, .int .u8 d, .bool p, .slice A E1 c] 39)) (.cells #[.int .u8 a', .int .u8 b', .int .u8 d', .slice T F1 tc, .slice A' E2 c'] 43)
      rw [show (w.alloc (.cells #[.int .u8 a, .int .u8 b, .int .u8 d, .bool p, .slice A E1 c] 39)).heap.size = w.heap.size + 1 by simp, hK0] at h
      exact h) (fun _ _ h hb => (hb.block _ (heap_lt h)).trans h)
  clear s0 s1
  go_enter Try.func16, Try.ntmps16
  go_upto_region 1 with fail
  obtain ⟨w1, hW0⟩ : ∃ W0, (w.alloc (.cells #[.int .u8 a, .int .u8 b, .int .u8 d, .bool p, .slice A E1 c] 39)).alloc (.cells #[.int .u8 a', .int .u8 b', .int .u8 d', .slice T F1 tc, .slice A' E2 c'] 43) = W0 := ⟨_, rfl⟩
  rw [hW0] at s2
  try rw [hW0]
  try rw [hK0]
  clear hW0 hK0
  have hw01 := s2.2.1
  have hoA : w1.heap[K0]? = some (.cells #[.int .u8 a, .int .u8 b, .int .u8 d, .bool p, .slice A E1 c] 39) := MK.get s2 1 rfl
  have hoB : w1.heap[K0 + 1]? = some (.cells #[.int .u8 a', .int .u8 b', .int .u8 d', .slice T F1 tc, .slice A' E2 c'] 43) := MK.get s2 0 rfl
  have hKS : ∀ W : World, Below w1.heap.size w1 W → (W.cell? ⟨K0, 0, none⟩ = some (.int .u8 a) ∧ W.cell? ⟨K0, 1, none⟩ = some (.int .u8 b) ∧ W.cell? ⟨K0, 2, none⟩ = some (.int .u8 d) ∧ W.cell? ⟨K0, 3, none⟩ = some (.bool p) ∧ W.cell? ⟨K0, 4, none⟩ = some (.slice A E1 c) ∧
      W.cell? ⟨K0 + 1, 0, none⟩ = some (.int .u8 a') ∧ W.cell? ⟨K0 + 1, 1, none⟩ = some (.int .u8 b') ∧ W.cell? ⟨K0 + 1, 2, none⟩ = some (.int .u8 d') ∧ W.cell? ⟨K0 + 1, 3, none⟩ = some (.slice T F1 tc) ∧ W.cell? ⟨K0 + 1, 4, none⟩ = some (.slice A' E2 c')) := fun W hW => by
    have h1 := (hW.block _ (heap_lt hoA)).trans hoA
    have h2 := (hW.block _ (heap_lt hoB)).trans hoB
    refine ⟨?_, ?_, ?_, ?_, ?_, ?_, ?_, ?_, ?_, ?_⟩
    all_goals
      first
        | (rw [cell_of_row _ _ _ _ _ _ h1]; rfl)
        | (rw [cell_of_row _ _ _ _ _ _ h2]; rfl)
  clear hoA hoB
  have HKS := Lib.hid hKS
  clear hKS
  go_cut [5, 6] from 12 to 15 (fun u v wx => ∃ (N : Ma) (G H : Nat) (R S : Option Addr) (c1 c2 : Nat), u = .pointer (some ⟨G, 0, none⟩) ∧ v = .pointer (some ⟨H, 0, none⟩) ∧ Hid (Mc.Cm n' i' o' N) ∧ Hid (SmR w1 M N G H R S n n' c1 c2 i o i' o' wx))
  case first =>
    go_region_held3 (fun W => W.cell? ⟨K0, 0, none⟩ = some (.int .u8 a) ∧ W.cell? ⟨K0, 1, none⟩ = some (.int .u8 b) ∧ W.cell? ⟨K0, 2, none⟩ = some (.int .u8 d) ∧ W.cell? ⟨K0, 3, none⟩ = some (.bool p) ∧ W.cell? ⟨K0, 4, none⟩ = some (.slice A E1 c) ∧
      W.cell? ⟨K0 + 1, 0, none⟩ = some (.int .u8 a') ∧ W.cell? ⟨K0 + 1, 1, none⟩ = some (.int .u8 b') ∧ W.cell? ⟨K0 + 1, 2, none⟩ = some (.int .u8 d') ∧ W.cell? ⟨K0 + 1, 3, none⟩ = some (.slice T F1 tc) ∧ W.cell? ⟨K0 + 1, 4, none⟩ = some (.slice A' E2 c'))
      ((refine HKS.out _ ?_; repeat (with_reducible (first | refine bS ?_ (by omega) _ | refine bA ?_ _ | refine bD ?_ | exact Below.refl _ _ | refine below_next ?_ (by assumption)))))
      (first
        | (go_at_call 37
           (with_reducible refine (CM _ (HR.out.below (below_next hw01 (by repeat (with_reducible (first | refine bA ?_ _ | refine bD ?_ | exact Below.refl _ _ | refine below_next ?_ (by assumption))))))).mono ?_)
           rintro e wA ⟨R, c1, vsR, rfl, hBR, hbA⟩
           have zA := hbA.size
           try simp at zA
           try (with_reducible have bA0 := BxM.toD (BxM.new1 w1) hbA)
           try (with_reducible have bA0 := BxM.toD ((BxM.new1 w1).al zM) hbA)
           try (with_reducible have bA1 := BxM.toD (BxM.new2 w1 zM) hbA)
           try obtain ⟨⟨x00, x01, x02⟩, ⟨x03, x04, x05⟩, x06⟩ := bA0.all
           try obtain ⟨⟨x10, x11, x12⟩, ⟨x13, x14, x15⟩, x16⟩ := bA1.all
           dsimp only)
        | (go_at_call 47
           (with_reducible refine (CN _ (HR8.out.below (below_next hw01 (by repeat (with_reducible (first | refine bA ?_ _ | refine bD ?_ | exact Below.refl _ _ | refine below_next ?_ (by assumption)))))) (HR'.out.below (below_next hw01 (by repeat (with_reducible (first | refine bA ?_ _ | refine bD ?_ | exact Below.refl _ _ | refine below_next ?_ (by assumption))))))).mono ?_)
           rintro e wB ⟨N, S, c2, vsS, rfl, hCm, hBS, hbB⟩
           have zB := hbB.size
           try simp at zB
           try (with_reducible have bB0 := BxM.to bA0 hbB)
           try (with_reducible have bB0 := BxM.to (bA0.al zM) hbB)
           try (with_reducible have bB1 := BxM.to bA1 hbB)
           try (with_reducible have bB2 := BxM.to (BxM.new1 wA) hbB)
           try (with_reducible have bB2 := BxM.to ((BxM.new1 wA).al zM) hbB)
           try (with_reducible have bB3 := BxM.to (BxM.new2 wA zM) hbB)
           try obtain ⟨⟨y00, y01, y02⟩, ⟨y03, y04, y05⟩, y06⟩ := bB0.all
           try obtain ⟨⟨y10, y11, y12⟩, ⟨y13, y14, y15⟩, y16⟩ := bB1.all
           try obtain ⟨⟨y20, y21, y22⟩, ⟨y23, y24, y25⟩, y26⟩ := bB2.all
           try obtain ⟨⟨y30, y31, y32⟩, ⟨y33, y34, y35⟩, y36⟩ := bB3.all
           dsimp only)
        | fail)
    all_goals
      go_wp2_with fail
      go_meet
      refine ⟨N, _, _, R, S, c1, c2, rfl, rfl, hCm, ?_⟩
      refine ⟨by omega, ?_, ?_, ?_, ?_, ?_⟩
      · repeat (with_reducible (first | exact BxM.new _ _ _ _ _ _ | exact BxM.newS _ _ _ _ _ _ _ _ _ _ | exact BxM.newB2 _ _ _ _ _ _ _ | exact BxM.set3 (by first | assumption | exact BxM.al (by assumption) _) | refine BxM.far3 ?_ (by omega) _ _ _ | refine BxM.al ?_ _))
      · repeat (with_reducible (first | exact BxM.new _ _ _ _ _ _ | exact BxM.newS _ _ _ _ _ _ _ _ _ _ | exact BxM.newB2 _ _ _ _ _ _ _ | exact BxM.set3 (by first | assumption | exact BxM.al (by assumption) _) | exact BxM.set3 (BxM.far3 (by assumption) (by omega) _ _ _) | refine BxM.far3 ?_ (by omega) _ _ _ | refine BxM.al ?_ _))
      · refine Bld.two (Bld.mid hBR.out ?_)
        repeat (with_reducible (first | refine Mid.set3 ?_ (by first | (simp; omega) | simp | omega) _ _ _ | refine Mid.alloc ?_ _ | exact Mid.refl _ _ | refine Mid.next ?_ hbB))
      · refine Bld.two (Bld.mid hBS.out ?_)
        repeat (with_reducible (first | refine Mid.set3 ?_ (by first | (simp; omega) | simp | omega) _ _ _ | refine Mid.alloc ?_ _ | exact Mid.refl _ _))
      · repeat (with_reducible (first | refine bS ?_ (by omega) _ | refine bA ?_ _ | refine bD ?_ | exact Below.refl _ _ | refine below_next ?_ (by assumption)))
  case rest =>
  obtain ⟨N, G, H, R, S, c1, c2, rfl, rfl, hCm, hS⟩ := hcut
  obtain ⟨w2, hw2⟩ : ∃ q, q = wc := ⟨_, rfl⟩
  rw [← hw2] at hS ⊢
  clear hw2
  have s3 := MK.putB (MK.putB (MK.putR (MK.putR (MT.next s2 hS.out.bel) hS.out.rb) hS.out.ra) hS.out.bh) hS.out.bg
  clear hw01 HKS CM CN HR HR' HR8 s2 hS
  have hcl : Hid ((Mc.cls M).length = n) := by show _ = _; rw [Mc.cls_len, hlen.out]
  have hcv : Hid (Go.Proofs.Ytnodnfailjmpeaa.M.Vd (Mc.cls M)) := Mc.cls_vd M
  obtain ⟨β, hβ⟩ : ∃ β, decide ((Mc.qn M).r.length = n) = β := ⟨_, rfl⟩
  obtain ⟨γ, hγ⟩ : ∃ γ, Mc.conn M = γ := ⟨_, rfl⟩
  have hβγ : Hid (β = (γ && decide (Go.Proofs.Ytnodnfailjmpeaa.M.cnt (Mc.cls M) = n))) := by show _ = _; rw [← hβ, ← hγ]; exact Mc.min_cnt V.out hlen.out
  obtain ⟨Q, hQ⟩ : ∃ Q, Mc.cls M = Q := ⟨_, rfl⟩
  rw [hQ] at hcl hcv hβγ
  have C1 := rclasses_any M i o R n c1 w2 V.out hmi.out hlen.out (MK.get s3 2 rfl)
  rw [hQ] at C1
  have C2 := fun w hr => qis_at M i o R n c1 w β V.out hmi.out hmo.out hlen.out hβ hr
  have C3 := fun w hr => conn9_at M i o R n c1 w γ V.out hmi.out hmo.out hlen.out hr hγ
  obtain ⟨pa, hpa⟩ : ∃ q, Mc.prp M = q := ⟨_, rfl⟩
  obtain ⟨pb, hpb⟩ : ∃ q, Mc.prp N = q := ⟨_, rfl⟩
  have D1 := fun w hr => qproper_at M i o R n c1 w pa V.out hmi.out hmo.out hlen.out hpa hr
  have D2 := fun w hr => rproper_any M R c1 w i o n pa V.out hmi.out hmo.out hlen.out (by rw [← Mc.prp_prR V.out]; exact hpa) hr
  have VN := hCm.out.val
  have D3 := fun w hr => qproper_at N i' o' S n' c2 w pb VN hCm.out.inp hCm.out.out hCm.out.len hpb hr
  have D4 := fun w hr => rproper_any N S c2 w i' o' n' pb VN hCm.out.inp hCm.out.out hCm.out.len (by rw [← Mc.prp_prR VN]; exact hpb) hr
  have hpb9 : pb ≠ 9 ∧ pb ≠ 11 := by
    rw [← hpb]
    unfold Mc.prp
    have e1 : Mc.cmpV N = true := by
      unfold Mc.cmpV
      rw [Mc.chk_of VN, if_pos rfl, hCm.out.all, hCm.out.len, hCm.out.inp]
      simp
    have e2 : Mc.conV N = true := by unfold Mc.conV; rw [Mc.chk_of VN, hCm.out.con]; rfl
    rw [e1, if_neg (by simp), e2, if_neg (by simp)]
    split <;> omega
  have DD := Lib.hid (And.intro D1 (And.intro D2 (And.intro D3 D4)))
  have CC2 := Lib.hid C2
  have CC3 := Lib.hid C3
  clear C2 C3 D1 D2 D3 D4 VN hβ hγ hpa hpb hCm hQ
  obtain ⟨m0, m1, m2⟩ := BxM.cells (MK.get s3 0 rfl)
  go_wp2_with fail
  clear m0 m1 m2
  refine C1.mono ?_
  rintro e w3 ⟨X, qx, rfl, hx, hbl⟩
  have s4 := MK.putL (MT.next s3 hbl) hx
  clear s3 C1 hx hbl
  go_wp2_with fail
  have S4 := Lib.hid s4
  clear s4
  go_loopw [8, 9] (fun u v wr => ∃ k z : Nat, k ≤ n ∧ v = .int .i64 k ∧ u = .int .i64 z ∧ Hid (Go.Proofs.Ytnodnfailjmpeaa.M.cnt (Q.take k) = z) ∧ Hid (Below w3.heap.size w3 wr)) (fun _ v _ => n - (intOf v).toNat)
  case atStart => exact ⟨0, 0, Nat.zero_le _, rfl, rfl, by show _ = _; rw [List.take_zero, Go.Proofs.Ytnodnfailjmpeaa.M.cnt_nil], Below.refl _ _⟩
  case round =>
    obtain ⟨k, z, hk, rfl, rfl, hz, hbk⟩ := hrel
    have sI := MT.next S4.out hbk.out
    by_cases hkn : k < n
    · have hkn' : (k : Int) < n := by omega
      obtain ⟨b1, o1, u, hXe, hb1, hc1, hu⟩ := Rd.at_ (show Rd wr X Q from MK.get sI 0 rfl) (k := k) (by rw [hcl.out]; exact hkn)
      subst hXe
      obtain ⟨z2, hz2⟩ : ∃ z2, Go.Proofs.Ytnodnfailjmpeaa.M.cnt (Q.take (k + 1)) = z2 := ⟨_, rfl⟩
      have hmax : max (z : Int) (u + 1) = z2 := by
        rw [← hz2, ← Mc.cnt_max hcv.out (by rw [hcl.out]; exact hkn), hz.out, show Go.Proofs.Ytnodnfailjmpeaa.M.gz Q k = u from hu.out]
      have hub := hcv.out.bound (z := u) (by rw [← hu.out]; exact Go.Proofs.Ytnodnfailjmpeaa.M.gz_mem (by rw [hcl.out]; exact hkn))
      have hcn := Go.Proofs.Ytnodnfailjmpeaa.M.cnt_le Q
      have hcl2 := hcl.out
      have huw : IntKind.i64.wrap (u + 1) = u + 1 := IntWalk.i64_in _ (by omega)
      have HZ2 := Lib.hid hz2
      clear hu hz hub hcn hcl2 hz2 sI
      go_wp2_with fail
      go_roundw
      case rel => exact ⟨k + 1, z2, by omega, by go_num, rfl, HZ2, hbk⟩
      case measure => simp [intOf]; omega
    · have hkn2 : n = k := by omega
      subst hkn2
      have hkn' : ¬ (n : Int) < n := by omega
      have hzc : Hid (Go.Proofs.Ytnodnfailjmpeaa.M.cnt Q = z) := by
        have := hz.out
        rw [List.take_of_length_le (by rw [hcl.out]; exact Nat.le_refl _)] at this
        exact this
      obtain ⟨m0, m1, m2⟩ := BxM.cells (MK.get sI 1 rfl)
      clear S4 hz hbk
      go_wp2_with fail
      clear m0 m1 m2
      refine (CC2.out _ (MK.get sI 3 rfl)).mono ?_
      rintro e w5 ⟨rfl, hbl⟩
      have s6 := MT.next sI hbl
      clear sI hbl
      obtain ⟨m0, m1, m2⟩ := BxM.cells (MK.get s6 1 rfl)
      obtain ⟨m3, m4, m5⟩ := BxM.cells (MK.get s6 2 rfl)
      have lG : G < w5.heap.size := heap_lt (show BxM w5 G i o R n c1 from MK.get s6 1 rfl)
      have lH : H < w5.heap.size := heap_lt (show BxM w5 H i' o' S n' c2 from MK.get s6 2 rfl)
      have rR : RdR w5 R M.r := MK.get s6 3 rfl
      have rS : RdR w5 S N.r := MK.get s6 4 rfl
      have f0 : ∀ x : BW w5, x.out.cell? ⟨G, 0, none⟩ = some (.int .i64 i) := fun x => (x.ok.cell (p := ⟨_, _, none⟩) lG).trans m0
      have f1 : ∀ x : BW w5, x.out.cell? ⟨G, 1, none⟩ = some (.int .i64 o) := fun x => (x.ok.cell (p := ⟨_, _, none⟩) lG).trans m1
      have f2 : ∀ x : BW w5, x.out.cell? ⟨G, 2, none⟩ = some (.slice R n c1) := fun x => (x.ok.cell (p := ⟨_, _, none⟩) lG).trans m2
      have f3 : ∀ x : BW w5, x.out.cell? ⟨H, 0, none⟩ = some (.int .i64 i') := fun x => (x.ok.cell (p := ⟨_, _, none⟩) lH).trans m3
      have f4 : ∀ x : BW w5, x.out.cell? ⟨H, 1, none⟩ = some (.int .i64 o') := fun x => (x.ok.cell (p := ⟨_, _, none⟩) lH).trans m4
      have f5 : ∀ x : BW w5, x.out.cell? ⟨H, 2, none⟩ = some (.slice S n' c2) := fun x => (x.ok.cell (p := ⟨_, _, none⟩) lH).trans m5
      have E1 := Lib.hid (fun x (h : Below w5.heap.size w5 x) => DD.out.1 x (rR.below h))
      have E2 := Lib.hid (fun x (h : Below w5.heap.size w5 x) => DD.out.2.1 x (rR.below h))
      have E3 := Lib.hid (fun x (h : Below w5.heap.size w5 x) => DD.out.2.2.1 x (rS.below h))
      have E4 := Lib.hid (fun x (h : Below w5.heap.size w5 x) => DD.out.2.2.2 x (rS.below h))
      have E5 := Lib.hid (fun x (h : Below w5.heap.size w5 x) => CC3.out x (rR.below h))
      have E6 := Lib.hid (fun x => qlives_walk x)
      have p1 : (pa == pa) = true := by simp
      have p2 : (pb == pb) = true := by simp
      have p3 : (pb != 9) = true := by simpa using hpb9.1
      have p4 : (pb != 11) = true := by simpa using hpb9.2
      have hF := Lib.hid s6.2.1
      clear m0 m1 m2 m3 m4 m5 lG lH rR rS s6 DD CC2 CC3
      cases γ with
      | true =>
        have hd : ((z : Int) == n) = β := by
          rw [hβγ.out, Bool.true_and, hzc.out]
          by_cases h : z = n
          · rw [h]; simp
          · rw [decide_eq_false h, beq_eq_false_iff_ne]; omega
        have hbb : (β == β) = true := by simp
        go_wp2_with fail
        refine wp_region_quiet_below (by kernel_rfl) (by kernel_rfl) ?_
        repeat (go_big_quiet_step ((rename_i x; first
          | ((with_reducible refine (E1.out _ x.ok).mono ?_); rintro e9 w9 ⟨rfl, hb9⟩; exact ⟨rfl, ⟨w9, below_next x.ok hb9⟩, rfl⟩)
          | ((with_reducible refine (E2.out _ x.ok).mono ?_); rintro e9 w9 ⟨rfl, hb9⟩; exact ⟨rfl, ⟨w9, below_next x.ok hb9⟩, rfl⟩)
          | ((with_reducible refine (E3.out _ x.ok).mono ?_); rintro e9 w9 ⟨rfl, hb9⟩; exact ⟨rfl, ⟨w9, below_next x.ok hb9⟩, rfl⟩)
          | ((with_reducible refine (E4.out _ x.ok).mono ?_); rintro e9 w9 ⟨rfl, hb9⟩; exact ⟨rfl, ⟨w9, below_next x.ok hb9⟩, rfl⟩)
          | ((with_reducible refine (E5.out _ x.ok).mono ?_); rintro e9 w9 ⟨rfl, hb9⟩; exact ⟨rfl, ⟨w9, below_next x.ok hb9⟩, rfl⟩)
          | ((with_reducible refine (E6.out _).mono ?_); rintro e9 w9 ⟨rfl, hb9⟩; exact ⟨rfl, ⟨w9, below_next x.ok hb9⟩, rfl⟩)
          | fail)))
        refine wpQuiet_nil ?_
        intro w11 hw11
        obtain ⟨⟨wx, hbW⟩, hw3⟩ := hw11
        dsimp only at hw3
        subst hw3
        have hfin := Lib.hid (below_next hF.out hbW)
        clear f0 f1 f2 f3 f4 f5 hbW
        go_wp2_with fail
        go_ret
        exact ⟨rfl, hfin.out⟩
      | false =>
        have hb0 : β = false := by rw [hβγ.out]; rfl
        subst hb0
        go_wp2_with fail
        refine wp_region_quiet_below (by kernel_rfl) (by kernel_rfl) ?_
        repeat (go_big_quiet_step ((rename_i x; first
          | ((with_reducible refine (E1.out _ x.ok).mono ?_); rintro e9 w9 ⟨rfl, hb9⟩; exact ⟨rfl, ⟨w9, below_next x.ok hb9⟩, rfl⟩)
          | ((with_reducible refine (E2.out _ x.ok).mono ?_); rintro e9 w9 ⟨rfl, hb9⟩; exact ⟨rfl, ⟨w9, below_next x.ok hb9⟩, rfl⟩)
          | ((with_reducible refine (E3.out _ x.ok).mono ?_); rintro e9 w9 ⟨rfl, hb9⟩; exact ⟨rfl, ⟨w9, below_next x.ok hb9⟩, rfl⟩)
          | ((with_reducible refine (E4.out _ x.ok).mono ?_); rintro e9 w9 ⟨rfl, hb9⟩; exact ⟨rfl, ⟨w9, below_next x.ok hb9⟩, rfl⟩)
          | ((with_reducible refine (E5.out _ x.ok).mono ?_); rintro e9 w9 ⟨rfl, hb9⟩; exact ⟨rfl, ⟨w9, below_next x.ok hb9⟩, rfl⟩)
          | ((with_reducible refine (E6.out _).mono ?_); rintro e9 w9 ⟨rfl, hb9⟩; exact ⟨rfl, ⟨w9, below_next x.ok hb9⟩, rfl⟩)
          | fail)))
        refine wpQuiet_nil ?_
        intro w11 hw11
        obtain ⟨⟨wx, hbW⟩, hw3⟩ := hw11
        dsimp only at hw3
        subst hw3
        have hfin := Lib.hid (below_next hF.out hbW)
        clear f0 f1 f2 f3 f4 f5 hbW
        go_wp2_with fail
        go_ret
        exact ⟨rfl, hfin.out⟩
end Go.Proofs.Ytnodnfailjmpeaa

namespace Go.Proofs.Ytnodnfailjmpeaa
open Go.RowKit
open Mc (Ed Ma)

namespace Mc
theorem hmE_zero {a b : Ma} (va : Val a) (vb : Val b) {f : List Int} (h : hmE a b f = 0) : a.i = b.i ∧ f.length = a.r.length ∧ hmB b.r.length f = false := by
  unfold hmE at h
  rw [if_neg (by rw [chk_of va]; simp), if_neg (by rw [chk_of vb]; simp)] at h
  by_cases h1 : a.i = b.i
  · rw [if_neg (fun h2 => h2 h1)] at h
    by_cases h2 : f.length = a.r.length
    · rw [if_neg (fun h3 => h3 h2)] at h
      cases h3 : hmB b.r.length f with
      | false => exact ⟨h1, h2, rfl⟩
      | true => rw [h3, if_pos rfl] at h; cases h
    · rw [if_pos h2] at h; cases h
  · rw [if_pos h1] at h; cases h
theorem hmE_val {a b : Ma} (va : Val a) (vb : Val b) (f : List Int) : hmE a b f = if a.i ≠ b.i then 5 else if f.length ≠ a.r.length then 16 else if hmB b.r.length f = true then 1 else 0 := by
  unfold hmE
  rw [if_neg (by rw [chk_of va]; simp), if_neg (by rw [chk_of vb]; simp)]
/-- What is wanted, as far as it is known. -/
def Wnt (f : List Int) (E : Int) (k : Nat) (P : Prop) (s : Nat) (z : Int) : Prop := (z ≠ 0 ∧ z = E) ∨ (z = 0 ∧ P ∧ ∀ i : Nat, i < s → 0 ≤ Go.Proofs.Ytnodnfailjmpeaa.M.gz f i ∧ Go.Proofs.Ytnodnfailjmpeaa.M.gz f i < k)
end Mc
theorem qhom_full (a b : Ma) (i o i' o' : Nat) (A B : Option Addr) (n c k d : Nat) (F : Option Addr) (q e : Nat) (f : List Int) (w : World) (z : Int) (β : Bool) (va : Mc.Val a) (vb : Mc.Val b) (hi : a.i = i) (ho : a.o = o) (hi' : b.i = i') (ho' : b.o = o') (hr : RdR w A a.r) (hq : RdR w B b.r) (hn : a.r.length = n) (hk : b.r.length = k)
    (hF : Rd w F f) (hf : f.length = q) (hqb : q ≤ 1000000) (hz : Mc.hmE a b f = z) (h0 : z ≠ 0 → β = false) (h1 : z = 0 → (β = true ↔ Mc.Hom a b f)) :
    Calls Try.prog 45 #[.agg #[.int .i64 i, .int .i64 o, .slice A n c], .agg #[.int .i64 i', .int .i64 o', .slice B k d], .slice F q e] w fun e w' => e = .returned (.tuple #[.bool β, .int .i64 z]) ∧ Below w.heap.size w w' := by
  by_cases hz0 : z = 0
  · obtain ⟨g1, g2, g3⟩ := Mc.hmE_zero va vb (hz.trans hz0)
    have g4 := Mc.hmB_all g3
    rw [hk] at g4
    have hqn : q = n := by rw [← hf, ← hn]; exact g2
    have hii : i' = i := by rw [hi, hi'] at g1; omega
    subst hqn hii
    rw [hz0]
    exact qhom_to a b i' o o' A B q c k d F e f w β va vb hi ho hi' ho' hr hq hn hk hF hf (fun s hs => g4 _ (M.gz_mem (by rw [hf]; exact hs))) (h1 hz0)
  · rw [h0 hz0]
    have v1 := va.r1
    have v2 := vb.r1
    exact qhom_err a b i o i' o' A B n c k d F q e f w z hi ho hi' ho' hr hq hn hk (by omega) (by omega) va.rows vb.rows hF hf hqb hz hz0
set_option maxRecDepth 100000 in
set_option maxHeartbeats 8000000 in
theorem lawQHom_walk (a b d : Int) (p : Bool) (A : Option Addr) (c : Nat) (es : List Int) (a' b' d' : Int) (p' : Bool) (A' : Option Addr) (c' : Nat) (es' : List Int) (F : Option Addr) (e0 : Nat) (f : List Int) (B1 : Option Addr) (e1 : Nat) (ws : List Int) (w : World)
    (hr : Rd16 w A es) (hr' : Rd16 w A' es') (hF : Rd w F f) (hr8 : Rd8 w B1 ws) (hl : es.length ≤ 9223372036854775807) (hl' : es'.length ≤ 9223372036854775807) (hlw : ws.length ≤ 9223372036854775807)
    (ha : 0 ≤ a ∧ a ≤ 255) (hb : 0 ≤ b ∧ b ≤ 255) (hd : 0 ≤ d ∧ d ≤ 255) (ha' : 0 ≤ a' ∧ a' ≤ 255) (hb' : 0 ≤ b' ∧ b' ≤ 255) (hd' : 0 ≤ d' ∧ d' ≤ 255) :
    Calls Try.prog 17 #[.agg #[.int .u8 a, .int .u8 b, .int .u8 d, .bool p, .slice A es.length c, .int .u8 a', .int .u8 b', .int .u8 d', .bool p', .slice A' es'.length c'], .slice F f.length e0, .agg #[.slice B1 ws.length e1]] w fun e w' => e = .returned (.bool true) ∧ Below w.heap.size w w' := by
  obtain ⟨E1, hE1⟩ : ∃ E, es.length = E := ⟨_, rfl⟩
  obtain ⟨E2, hE2⟩ : ∃ E, es'.length = E := ⟨_, rfl⟩
  obtain ⟨F1, hF1⟩ : ∃ E, ws.length = E := ⟨_, rfl⟩
  obtain ⟨q, hq⟩ : ∃ q, f.length = q := ⟨_, rfl⟩
  obtain ⟨n, hn⟩ : ∃ n : Nat, 1 + a % 6 = n := ⟨(1 + a % 6).toNat, by omega⟩
  obtain ⟨i, hi⟩ : ∃ i : Nat, 1 + b % 3 = i := ⟨(1 + b % 3).toNat, by omega⟩
  obtain ⟨o, ho⟩ : ∃ o : Nat, 1 + d % 3 = o := ⟨(1 + d % 3).toNat, by omega⟩
  obtain ⟨n', hn'⟩ : ∃ n' : Nat, 1 + a' % 6 = n' := ⟨(1 + a' % 6).toNat, by omega⟩
  obtain ⟨i', hi'⟩ : ∃ i' : Nat, 1 + b' % 3 = i' := ⟨(1 + b' % 3).toNat, by omega⟩
  obtain ⟨o', ho'⟩ : ∃ o' : Nat, 1 + d' % 3 = o' := ⟨(1 + d' % 3).toNat, by omega⟩
  have CM := fun w hr => mofB_at a b d p A c es n i o w hr hl ha hb hd hn hi ho
  have CN := fun w hr => mofB_at a' b' d' p' A' c' es' n' i' o' w hr hl' ha' hb' hd' hn' hi' ho'
  have hn6 : n ≤ 6 := by omega
  have hn1 : 1 ≤ n := by omega
  have hi1 : 1 ≤ i := by omega
  have hi3 : i ≤ 3 := by omega
  have hn6' : n' ≤ 6 := by omega
  have V := Lib.hid (Mc.mkN_val (p := p) (n := n) (i := i) (o := o) (es := es) (by omega) (by omega) (by omega) (by omega) (by omega) (by omega))
  have V' := Lib.hid (Mc.mkN_val (p := p') (n := n') (i := i') (o := o') (es := es') (by omega) (by omega) (by omega) (by omega) (by omega) (by omega))
  have hlen : Hid ((Mc.mkN p n i o es).r.length = n) := Mc.mkN_len _ _ _ _ _
  have hlen' : Hid ((Mc.mkN p' n' i' o' es').r.length = n') := Mc.mkN_len _ _ _ _ _
  have hmi : Hid ((Mc.mkN p n i o es).i = i) := rfl
  have hmo : Hid ((Mc.mkN p n i o es).o = o) := rfl
  have hmi' : Hid ((Mc.mkN p' n' i' o' es').i = i') := rfl
  have hmo' : Hid ((Mc.mkN p' n' i' o' es').o = o') := rfl
  obtain ⟨M, hM⟩ : ∃ M, Mc.mkN p n i o es = M := ⟨_, rfl⟩
  obtain ⟨N, hN⟩ : ∃ N, Mc.mkN p' n' i' o' es' = N := ⟨_, rfl⟩
  rw [hM] at V hlen hmi hmo
  rw [hN] at V' hlen' hmi' hmo'
  simp only [hM, hE1] at CM
  simp only [hN, hE2] at CN
  clear hM hN ha hb hd hn hi ho hl ha' hb' hd' hn' hi' ho' hl'
  have CW := fun w h => wof9_at B1 e1 ws i w h hi1 (by omega) hlw
  have HW := Lib.hid (Mc.sym_wd9 (m := M) (i := i) (zs := ws) hmi.out (by omega))
  obtain ⟨Y, hY⟩ : ∃ Y, Go.Proofs.Ytnodnfailjmpeaa.M.sym i ws = Y := ⟨_, rfl⟩
  rw [hY] at HW
  simp only [hY, hF1] at CW
  obtain ⟨Z, hZ⟩ : ∃ Z, Mc.hmE M N f = Z := ⟨_, rfl⟩
  have HZ := Lib.hid hZ
  have HQ := Lib.hid hq
  have HR := Lib.hid hr
  have HR' := Lib.hid hr'
  have HR8 := Lib.hid hr8
  have HFF := Lib.hid hF
  have HCW := Lib.hid CW
  rw [hE1, hE2, hF1, hq]
  clear hr hr' hr8 hF hE1 hE2 hF1 hq hY hZ hlw CW
  obtain ⟨K0, hK0⟩ : ∃ K0, w.heap.size = K0 := ⟨_, rfl⟩
  have s0 : MT w w [] := MT.start
  have s1 := MT.putK (P := fun w => w.heap[K0]? = some (.cells #[.int .u8 a, .int .u8 b, .int .u8 d, .bool p, .slice A E1 c, .int .u8 a', .int .u8 b', .int .u8 d', .bool p', .slice A' E2 c'] 48)) (MT.alloc s0 (.cells #[.int .u8 a, .int .u8 b, .int .u8 d, .bool p, .slice A E1 c, .int .u8 a', .int .u8 b', .int .u8 d', .bool p', .slice A' E2 c'] 48))
    (by
      have h := heap_alloc_new w (.cells #[.int .u8 a, .int .u8 b, .int .u8 d, .bool p, .slice A E1 c, .int .u8 a', .int .u8 b', .int .u8 d', .bool p', .slice A' E2 c'] 48)
      rw [hK0] at h
      exact h) (fun _ _ h hb => (hb.block _ (heap_lt h)).trans h)
  have s2 := MT.putK (P := fun w => w.heap[K0 + 1]? = some (.cells #[.slice B1 F1 e1] 41)) (MT.alloc s1 (.cells #[.slice B1 F1 e1] 41))
    (by
      have h := heap_alloc_new (w.alloc (.cells #[.int .u8 a, .int .u8 b, .int .u8 d, .bool p, .slice A E1 c, .int .u8 a', .int .u8 b', .int .u8 d', .bool p', .slice A' E2 c'] 48)) (.cells #[.slice B1 F1 e1] 41)
      rw [show (w.alloc (.cells #[.int .u8 a, .int .u8 b, .int .u8 d, .bool p, .slice A E1 c, .int .u8 a', .int .u8 b', .int .u8 d', .bool p', .slice A' E2 c'] 48)).heap.size = w.heap.size + 1 by simp, hK0] at h
      exact h) (fun _ _ h hb => (hb.block _ (heap_lt h)).trans h)
  clear s0 s1
  go_enter Try.func17, Try.ntmps17
  go_upto_region 1 with fail
  obtain ⟨w1, hW0⟩ : ∃ W0, (w.alloc (.cells #[.int .u8 a, .int .u8 b, .int .u8 d, .bool p, .slice A E1 c, .int .u8 a', .int .u8 b', .int .u8 d', .bool p', .slice A' E2 c'] 48)).alloc (.cells #[.slice B1 F1 e1] 41) = W0 := ⟨_, rfl⟩
  rw [hW0] at s2
  try rw [hW0]
  try rw [hK0]
  clear hW0 hK0
  by_cases hq80 : 80 < q
  · have hqd : decide ((80 : Int) < q) = true := decide_eq_true (by omega)
    have hqi : (80 : Int) < q := by omega
    have hfin := Lib.hid s2.2.1
    clear s2 CM CN
    go_wp2_with fail
    go_ret
    exact ⟨rfl, hfin.out⟩
  have hqd : decide ((80 : Int) < q) = false := decide_eq_false (by omega)
  have hqi : ¬ (80 : Int) < q := by omega
  have hw01 := s2.2.1
  have hoA : w1.heap[K0]? = some (.cells #[.int .u8 a, .int .u8 b, .int .u8 d, .bool p, .slice A E1 c, .int .u8 a', .int .u8 b', .int .u8 d', .bool p', .slice A' E2 c'] 48) := MK.get s2 1 rfl
  have hKS : ∀ W : World, Below w1.heap.size w1 W → (W.cell? ⟨K0, 0, none⟩ = some (.int .u8 a) ∧ W.cell? ⟨K0, 1, none⟩ = some (.int .u8 b) ∧ W.cell? ⟨K0, 2, none⟩ = some (.int .u8 d) ∧ W.cell? ⟨K0, 3, none⟩ = some (.bool p) ∧ W.cell? ⟨K0, 4, none⟩ = some (.slice A E1 c) ∧
      W.cell? ⟨K0, 5, none⟩ = some (.int .u8 a') ∧ W.cell? ⟨K0, 6, none⟩ = some (.int .u8 b') ∧ W.cell? ⟨K0, 7, none⟩ = some (.int .u8 d') ∧ W.cell? ⟨K0, 8, none⟩ = some (.bool p') ∧ W.cell? ⟨K0, 9, none⟩ = some (.slice A' E2 c')) := fun W hW => by
    have h1 := (hW.block _ (heap_lt hoA)).trans hoA
    refine ⟨?_, ?_, ?_, ?_, ?_, ?_, ?_, ?_, ?_, ?_⟩ <;> (rw [cell_of_row _ _ _ _ _ _ h1]; rfl)
  clear hoA
  have HKS := Lib.hid hKS
  clear hKS
  go_upto_region 3 with fail
  go_cut [7, 8] from 18 to 23 (fun u v wx => ∃ (G H : Nat) (R S : Option Addr) (c1 c2 : Nat), u = .pointer (some ⟨G, 0, none⟩) ∧ v = .pointer (some ⟨H, 0, none⟩) ∧ Hid (SmR w1 M N G H R S n n' c1 c2 i o i' o' wx))
  case first =>
    go_region_held3 (fun W => W.cell? ⟨K0, 0, none⟩ = some (.int .u8 a) ∧ W.cell? ⟨K0, 1, none⟩ = some (.int .u8 b) ∧ W.cell? ⟨K0, 2, none⟩ = some (.int .u8 d) ∧ W.cell? ⟨K0, 3, none⟩ = some (.bool p) ∧ W.cell? ⟨K0, 4, none⟩ = some (.slice A E1 c) ∧
      W.cell? ⟨K0, 5, none⟩ = some (.int .u8 a') ∧ W.cell? ⟨K0, 6, none⟩ = some (.int .u8 b') ∧ W.cell? ⟨K0, 7, none⟩ = some (.int .u8 d') ∧ W.cell? ⟨K0, 8, none⟩ = some (.bool p') ∧ W.cell? ⟨K0, 9, none⟩ = some (.slice A' E2 c'))
      ((refine HKS.out _ ?_; repeat (with_reducible (first | refine bS ?_ (by omega) _ | refine bA ?_ _ | refine bD ?_ | exact Below.refl _ _ | refine below_next ?_ (by assumption)))))
      (first
        | (go_at_call 37
           (with_reducible refine (CM _ (HR.out.below (below_next hw01 (by repeat (with_reducible (first | refine bA ?_ _ | refine bD ?_ | exact Below.refl _ _ | refine below_next ?_ (by assumption))))))).mono ?_)
           rintro e wA ⟨R, c1, vsR, rfl, hBR, hbA⟩
           have zA := hbA.size
           try simp at zA
           try (with_reducible have bA0 := BxM.toD (BxM.new1 w1) hbA)
           try (with_reducible have bA0 := BxM.toD ((BxM.new1 w1).al zM) hbA)
           try (with_reducible have bA1 := BxM.toD (BxM.new2 w1 zM) hbA)
           try obtain ⟨⟨x00, x01, x02⟩, ⟨x03, x04, x05⟩, x06⟩ := bA0.all
           try obtain ⟨⟨x10, x11, x12⟩, ⟨x13, x14, x15⟩, x16⟩ := bA1.all
           dsimp only)
        | (go_at_call 37
           (with_reducible refine (CN _ (HR'.out.below (below_next hw01 (by repeat (with_reducible (first | refine bA ?_ _ | refine bD ?_ | exact Below.refl _ _ | refine below_next ?_ (by assumption))))))).mono ?_)
           rintro e wB ⟨S, c2, vsS, rfl, hBS, hbB⟩
           have zB := hbB.size
           try simp at zB
           try (with_reducible have bB0 := BxM.to bA0 hbB)
           try (with_reducible have bB0 := BxM.to (bA0.al zM) hbB)
           try (with_reducible have bB1 := BxM.to bA1 hbB)
           try (with_reducible have bB2 := BxM.to (BxM.new1 wA) hbB)
           try (with_reducible have bB2 := BxM.to ((BxM.new1 wA).al zM) hbB)
           try (with_reducible have bB3 := BxM.to (BxM.new2 wA zM) hbB)
           try obtain ⟨⟨y00, y01, y02⟩, ⟨y03, y04, y05⟩, y06⟩ := bB0.all
           try obtain ⟨⟨y10, y11, y12⟩, ⟨y13, y14, y15⟩, y16⟩ := bB1.all
           try obtain ⟨⟨y20, y21, y22⟩, ⟨y23, y24, y25⟩, y26⟩ := bB2.all
           try obtain ⟨⟨y30, y31, y32⟩, ⟨y33, y34, y35⟩, y36⟩ := bB3.all
           dsimp only)
        | fail)
    all_goals
      go_wp2_with fail
      go_meet
      refine ⟨_, _, R, S, c1, c2, rfl, rfl, ?_⟩
      refine ⟨by omega, ?_, ?_, ?_, ?_, ?_⟩
      · repeat (with_reducible (first | exact BxM.new _ _ _ _ _ _ | exact BxM.newS _ _ _ _ _ _ _ _ _ _ | exact BxM.newB2 _ _ _ _ _ _ _ | exact BxM.set3 (by first | assumption | exact BxM.al (by assumption) _) | refine BxM.far3 ?_ (by omega) _ _ _ | refine BxM.al ?_ _))
      · repeat (with_reducible (first | exact BxM.new _ _ _ _ _ _ | exact BxM.newS _ _ _ _ _ _ _ _ _ _ | exact BxM.newB2 _ _ _ _ _ _ _ | exact BxM.set3 (by first | assumption | exact BxM.al (by assumption) _) | exact BxM.set3 (BxM.far3 (by assumption) (by omega) _ _ _) | refine BxM.far3 ?_ (by omega) _ _ _ | refine BxM.al ?_ _))
      · refine Bld.two (Bld.mid hBR.out ?_)
        repeat (with_reducible (first | refine Mid.set3 ?_ (by first | (simp; omega) | simp | omega) _ _ _ | refine Mid.alloc ?_ _ | exact Mid.refl _ _ | refine Mid.next ?_ hbB))
      · refine Bld.two (Bld.mid hBS.out ?_)
        repeat (with_reducible (first | refine Mid.set3 ?_ (by first | (simp; omega) | simp | omega) _ _ _ | refine Mid.alloc ?_ _ | exact Mid.refl _ _))
      · repeat (with_reducible (first | refine bS ?_ (by omega) _ | refine bA ?_ _ | refine bD ?_ | exact Below.refl _ _ | refine below_next ?_ (by assumption)))
  case rest =>
  obtain ⟨G, H, R, S, c1, c2, rfl, rfl, hS⟩ := hcut
  obtain ⟨w2, hw2⟩ : ∃ x, x = wc := ⟨_, rfl⟩
  rw [← hw2] at hS ⊢
  clear hw2
  have s3 := MK.putL (MK.putB (MK.putB (MK.putR (MK.putR (MT.next s2 hS.out.bel) hS.out.rb) hS.out.ra) hS.out.bh) hS.out.bg) (HFF.out.below (MT.next s2 hS.out.bel).2.1)
  clear hw01 HKS CM CN HR HR' HFF s2 hS hqd hqi
  obtain ⟨β, hβ0, hβ1⟩ : ∃ β : Bool, (Z ≠ 0 → β = false) ∧ (Z = 0 → (β = true ↔ Mc.Hom M N f)) := by
    by_cases h : Z = 0
    · exact ⟨@decide (Mc.Hom M N f) (Classical.propDecidable _), fun h2 => absurd h h2, fun _ => @decide_eq_true_iff _ (Classical.propDecidable _)⟩
    · exact ⟨false, fun _ => rfl, fun h2 => absurd h2 h⟩
  have HB0 := Lib.hid hβ0
  have HB1 := Lib.hid hβ1
  have hq6 : q ≤ 80 := by omega
  have C1 := fun w hr hq hF => qhom_full M N i o i' o' R S n c1 n' c2 F q e0 f w Z β V.out V'.out hmi.out hmo.out hmi'.out hmo'.out hr hq hlen.out hlen'.out hF HQ.out (by omega) HZ.out HB0.out HB1.out
  clear hβ0 hβ1
  obtain ⟨m0, m1, m2⟩ := BxM.cells (MK.get s3 1 rfl)
  obtain ⟨m3, m4, m5⟩ := BxM.cells (MK.get s3 2 rfl)
  go_wp2_with fail
  clear m0 m1 m2 m3 m4 m5
  refine (C1 _ (MK.get s3 3 rfl) (MK.get s3 4 rfl) (MK.get s3 0 rfl)).mono ?_
  rintro e w3 ⟨rfl, hbl⟩
  have s4 := MT.next s3 hbl
  clear s3 hbl C1
  go_upto_region 5 with fail
  obtain ⟨m0, m1, m2⟩ := BxM.cells (MK.get s4 1 rfl)
  obtain ⟨m3, m4, m5⟩ := BxM.cells (MK.get s4 2 rfl)
  have HE := Lib.hid (Mc.hmE_val V.out V'.out f)
  have S4 := Lib.hid s4
  clear s4
  obtain ⟨z0, hz0, hz1⟩ : ∃ z0 : Int, Hid (Mc.Wnt f Z n' (M.i = N.i ∧ q = n) 0 z0) ∧ ((i ≠ i' ∧ z0 = 5) ∨ (i = i' ∧ q ≠ n ∧ z0 = 16) ∨ (i = i' ∧ q = n ∧ z0 = 0)) := by
    by_cases h1 : i = i'
    · have h2 : M.i = N.i := by rw [hmi.out, hmi'.out, h1]
      by_cases h3 : q = n
      · exact ⟨0, .inr ⟨rfl, ⟨h2, h3⟩, fun j h => absurd h (Nat.not_lt_zero _)⟩, .inr (.inr ⟨h1, h3, rfl⟩)⟩
      · exact ⟨16, .inl ⟨by decide, by rw [← HZ.out, HE.out, if_neg (fun h => h h2), if_pos (fun h => h3 (by rw [← HQ.out, ← hlen.out]; exact h))]⟩, .inr (.inl ⟨h1, h3, rfl⟩)⟩
    · exact ⟨5, .inl ⟨by decide, by rw [← HZ.out, HE.out, if_pos (fun h => h1 (by rw [hmi.out, hmi'.out] at h; omega))]⟩, .inl ⟨h1, rfl⟩⟩
  have hW0 := hz0
  clear hz0
  rcases hz1 with ⟨h1, rfl⟩ | ⟨h1, h2, rfl⟩ | ⟨h1, h2, rfl⟩
  · have hib : ((i : Int) != i') = true := by simp; omega
    have hib2 : ((i : Int) == i') = false := by rw [beq_eq_false_iff_ne]; omega
    have hib3 : ¬ i = i' := h1
    go_wp2_with fail
    clear m0 m1 m2 m3 m4 m5 hib hib2 hib3
    go_loopw [11, 12] (fun u v wr => ∃ (s : Nat) (z : Int), s ≤ q ∧ v = .int .i64 s ∧ u = .int .i64 z ∧ Hid (z ≠ 0 ∧ z = Z) ∧ Hid (Below w3.heap.size w3 wr)) (fun _ _ _ => 0)
    case atStart => exact ⟨0, _, Nat.zero_le _, rfl, rfl, by rcases hW0.out with h | ⟨h, _⟩; exact h; exact absurd h (by decide), Below.refl _ _⟩
    case round =>
      clear hW0
      obtain ⟨s, z, hs, rfl, rfl, hWn, hbr⟩ := hrel
      have sI := MT.next S4.out hbr.out
      have hz := hWn.out.1
      have hzE := hWn.out.2
      subst hzE
      have hβf : β = false := HB0.out hz
      subst hβf
      have hzb : (z == 0) = false := by rw [beq_eq_false_iff_ne]; exact hz
      have hzn : (z != 0) = true := by simpa using hz
      have hzz : (z == z) = true := by simp
      have hF := Lib.hid sI.2.1
      have HZN := Lib.hid hz
      clear sI hWn hz
      by_cases hsq : s < q
      · have hsq' : decide ((s : Int) < q) = true := decide_eq_true (by omega)
        have hsqi : (s : Int) < q := by omega
        go_wp2_with fail
        refine (qlives_walk _).mono ?_
        rintro e w10 ⟨rfl, hbl⟩
        have hfin := Lib.hid (below_next hF.out hbl)
        clear hF hbl
        go_wp2_with fail
        go_ret
        exact ⟨rfl, hfin.out⟩
      · have hsq' : decide ((s : Int) < q) = false := decide_eq_false (by omega)
        have hsqi : ¬ (s : Int) < q := by omega
        go_wp2_with fail
        refine (qlives_walk _).mono ?_
        rintro e w10 ⟨rfl, hbl⟩
        have hfin := Lib.hid (below_next hF.out hbl)
        clear hF hbl
        go_wp2_with fail
        go_ret
        exact ⟨rfl, hfin.out⟩
  · have hib : ((i : Int) != i') = false := by rw [h1]; simp
    have hqb : ((q : Int) != n) = true := by simp; omega
    have hqb2 : ((q : Int) == n) = false := by rw [beq_eq_false_iff_ne]; omega
    have hqb3 : ¬ q = n := h2
    subst h1
    go_wp2_with fail
    clear m0 m1 m2 m3 m4 m5 hib hqb hqb2 hqb3
    go_loopw [11, 12] (fun u v wr => ∃ (s : Nat) (z : Int), s ≤ q ∧ v = .int .i64 s ∧ u = .int .i64 z ∧ Hid (z ≠ 0 ∧ z = Z) ∧ Hid (Below w3.heap.size w3 wr)) (fun _ _ _ => 0)
    case atStart => exact ⟨0, _, Nat.zero_le _, rfl, rfl, by rcases hW0.out with h | ⟨h, _⟩; exact h; exact absurd h (by decide), Below.refl _ _⟩
    case round =>
      clear hW0
      obtain ⟨s, z, hs, rfl, rfl, hWn, hbr⟩ := hrel
      have sI := MT.next S4.out hbr.out
      have hz := hWn.out.1
      have hzE := hWn.out.2
      subst hzE
      have hβf : β = false := HB0.out hz
      subst hβf
      have hzb : (z == 0) = false := by rw [beq_eq_false_iff_ne]; exact hz
      have hzn : (z != 0) = true := by simpa using hz
      have hzz : (z == z) = true := by simp
      have hF := Lib.hid sI.2.1
      have HZN := Lib.hid hz
      clear sI hWn hz
      by_cases hsq : s < q
      · have hsq' : decide ((s : Int) < q) = true := decide_eq_true (by omega)
        have hsqi : (s : Int) < q := by omega
        go_wp2_with fail
        refine (qlives_walk _).mono ?_
        rintro e w10 ⟨rfl, hbl⟩
        have hfin := Lib.hid (below_next hF.out hbl)
        clear hF hbl
        go_wp2_with fail
        go_ret
        exact ⟨rfl, hfin.out⟩
      · have hsq' : decide ((s : Int) < q) = false := decide_eq_false (by omega)
        have hsqi : ¬ (s : Int) < q := by omega
        go_wp2_with fail
        refine (qlives_walk _).mono ?_
        rintro e w10 ⟨rfl, hbl⟩
        have hfin := Lib.hid (below_next hF.out hbl)
        clear hF hbl
        go_wp2_with fail
        go_ret
        exact ⟨rfl, hfin.out⟩
  · have hib : ((i : Int) != i') = false := by rw [h1]; simp
    have hqb : ((q : Int) != n) = false := by rw [h2]; simp
    subst h1
    go_wp2_with fail
    clear m0 m1 m2 m3 m4 m5 hib hqb h2
    go_loopw [11, 12] (fun u v wr => ∃ (s : Nat) (z : Int), s ≤ q ∧ v = .int .i64 s ∧ u = .int .i64 z ∧ Hid (Mc.Wnt f Z n' (M.i = N.i ∧ q = n) s z) ∧ Hid (Below w3.heap.size w3 wr)) (fun _ v _ => q - (intOf v).toNat)
    case atStart => exact ⟨0, _, Nat.zero_le _, rfl, rfl, hW0, Below.refl _ _⟩
    case round =>
      clear hW0
      obtain ⟨s, z, hs, rfl, rfl, hWn, hbr⟩ := hrel
      have sI := MT.next S4.out hbr.out
      by_cases hz : z = 0
      · by_cases hsq : s < q
        · have hsq' : decide ((s : Int) < q) = true := decide_eq_true (by omega)
          have hzb : (z == 0) = true := by rw [hz]; rfl
          have hsqi : (s : Int) < q := by omega
          obtain ⟨hP, hpre⟩ : (M.i = N.i ∧ q = n) ∧ ∀ i : Nat, i < s → 0 ≤ Go.Proofs.Ytnodnfailjmpeaa.M.gz f i ∧ Go.Proofs.Ytnodnfailjmpeaa.M.gz f i < n' := by
            rcases hWn.out with ⟨h1, _⟩ | ⟨_, h1, h2⟩
            · exact absurd hz h1
            · exact ⟨h1, h2⟩
          have HP := Lib.hid hP
          have HPre := Lib.hid hpre
          obtain ⟨b1, o1, x, hFe, hb1, hc1, hx⟩ := Rd.at_ (show Rd wr F f from MK.get sI 0 rfl) (k := s) (by rw [HQ.out]; exact hsq)
          subst hFe
          have hxm : Hid (x ∈ f) := by show x ∈ f; rw [← hx.out]; exact Go.Proofs.Ytnodnfailjmpeaa.M.gz_mem (by rw [HQ.out]; exact hsq)
          have HX : Hid (Go.Proofs.Ytnodnfailjmpeaa.M.gz f s = x) := hx.out
          obtain ⟨m3, m4, m5⟩ := BxM.cells (MK.get sI 2 rfl)
          have lH : H < wr.heap.size := heap_lt (show BxM wr H i o' S n' c2 from MK.get sI 2 rfl)
          have f0 : ∀ y : BW wr, y.out.cell? ⟨H, 2, none⟩ = some (.slice S n' c2) := fun y => (y.ok.cell (p := ⟨_, _, none⟩) lH).trans m5
          have f1 : ∀ y : BW wr, y.out.cell? ⟨b1, o1 + s, none⟩ = some (.int .i64 x) := fun y => (y.ok.cell (p := ⟨b1, o1 + s, none⟩) hb1).trans hc1
          have hbad : (x < 0 ∨ (n' : Int) ≤ x) → Hid (Mc.Wnt f Z n' (M.i = N.i ∧ q = n) (s + 1) 1) := fun h => .inl ⟨by decide, by
            rw [← HZ.out, HE.out, if_neg (fun h2 => h2 HP.out.1), if_neg (fun h2 => h2 (by rw [HQ.out, hlen.out]; exact HP.out.2)), if_pos]
            rw [hlen'.out]
            exact Mc.hmB_yes hxm.out h⟩
          have hgood : 0 ≤ x → x < n' → Hid (Mc.Wnt f Z n' (M.i = N.i ∧ q = n) (s + 1) 0) := fun h1 h2 => .inr ⟨rfl, HP.out, fun j hj => by
            rcases Nat.lt_or_ge j s with h3 | h3
            · exact HPre.out j h3
            · obtain rfl : j = s := by omega
              rw [HX.out]
              exact ⟨h1, h2⟩⟩
          have HBad := Lib.hid hbad
          have HGood := Lib.hid hgood
          have HSQ := Lib.hid hsq
          subst hz
          clear hP hpre hx hbad hgood m3 m4 m5 hWn sI hc1
          by_cases hx0 : x < 0
          · have hx0' : decide (x < 0) = true := decide_eq_true hx0
            have hW1 := HBad.out (.inl hx0)
            clear hx0
            go_wp2_with fail
            refine wp_region_quiet_below (by kernel_rfl) (by kernel_rfl) ?_
            repeat (go_big_quiet_step (fail))
            refine wpQuiet_nil ?_
            intro w11 hw11
            obtain ⟨⟨wx, hbW⟩, hw3⟩ := hw11
            dsimp only at hw3
            subst hw3
            have hbr2 := Lib.hid (below_next hbr.out hbW)
            clear f0 f1
            go_wp2_with fail
            go_roundw
            case rel => exact ⟨s + 1, 1, by have := HSQ.out; omega, by go_num, rfl, hW1, hbr2⟩
            case measure => have := HSQ.out; simp [intOf]; omega
          · have hx0' : decide (x < 0) = false := decide_eq_false hx0
            by_cases hxk : (n' : Int) ≤ x
            · have hxk' : decide ((n' : Int) ≤ x) = true := decide_eq_true hxk
              have hW1 := HBad.out (.inr hxk)
              clear hx0 hxk
              go_wp2_with fail
              refine wp_region_quiet_below (by kernel_rfl) (by kernel_rfl) ?_
              repeat (go_big_quiet_step (fail))
              refine wpQuiet_nil ?_
              intro w11 hw11
              obtain ⟨⟨wx, hbW⟩, hw3⟩ := hw11
              dsimp only at hw3
              subst hw3
              have hbr2 := Lib.hid (below_next hbr.out hbW)
              clear f0 f1
              go_wp2_with fail
              go_roundw
              case rel => exact ⟨s + 1, 1, by have := HSQ.out; omega, by go_num, rfl, hW1, hbr2⟩
              case measure => have := HSQ.out; simp [intOf]; omega
            · have hxk' : decide ((n' : Int) ≤ x) = false := decide_eq_false hxk
              have hW1 := HGood.out (by omega) (by omega)
              clear hx0 hxk
              go_wp2_with fail
              refine wp_region_quiet_below (by kernel_rfl) (by kernel_rfl) ?_
              repeat (go_big_quiet_step (fail))
              refine wpQuiet_nil ?_
              intro w11 hw11
              obtain ⟨⟨wx, hbW⟩, hw3⟩ := hw11
              dsimp only at hw3
              subst hw3
              have hbr2 := Lib.hid (below_next hbr.out hbW)
              clear f0 f1
              go_wp2_with fail
              go_roundw
              case rel => exact ⟨s + 1, 0, by have := HSQ.out; omega, by go_num, rfl, hW1, hbr2⟩
              case measure => have := HSQ.out; simp [intOf]; omega
        · have hsN : q = s := by omega
          subst hsN
          subst hz
          have hsq' : decide ((q : Int) < q) = false := decide_eq_false (by omega)
          have hsqi : ¬ (q : Int) < q := by omega
          obtain ⟨⟨hP1, hP2⟩, hpre⟩ : (M.i = N.i ∧ q = n) ∧ ∀ i : Nat, i < q → 0 ≤ Go.Proofs.Ytnodnfailjmpeaa.M.gz f i ∧ Go.Proofs.Ytnodnfailjmpeaa.M.gz f i < n' := by
            rcases hWn.out with ⟨h1, _⟩ | ⟨_, h1, h2⟩
            · exact absurd rfl h1
            · exact ⟨h1, h2⟩
          have hZ0 : Z = 0 := by
            rw [← HZ.out, HE.out, if_neg (fun h2 => h2 hP1), if_neg (fun h2 => h2 (by rw [HQ.out, hlen.out]; exact hP2)), if_neg]
            rw [hlen'.out, Mc.hmB_no fun x hx => by
              obtain ⟨j, hj, rfl⟩ := Go.Proofs.Ytnodnfailjmpeaa.M.mem_gz hx
              exact hpre j (by rw [← HQ.out]; exact hj)]
            simp
          subst hP2
          have hHom := HB1.out hZ0
          have HHom := Lib.hid hHom
          have HPre := Lib.hid hpre
          have HII : Hid (M.i = N.i) := hP1
          subst hZ0
          obtain ⟨r, hr1⟩ : ∃ r : Int, (if β = true then 1 else 0) = r := ⟨_, rfl⟩
          have hrb : (r == 1) = β := by rw [← hr1]; cases β <;> rfl
          have C5 := fun w hr hq hF => rhom_to M N i o o' R S q c1 n' c2 F e0 f w r V.out V'.out hmi.out hmo.out hmi'.out hmo'.out hr hq hlen.out hlen'.out hF HQ.out HPre.out (fun h => by rw [← hr1, HHom.out.2 h]; rfl) (fun h => by rw [← hr1, if_neg (fun h2 => h (HHom.out.1 h2))])
          have hbb : (β != β) = false := by simp
          clear hr1 hWn hHom hpre hP1 HB0 HB1 HZ HE
          obtain ⟨m0, m1, m2⟩ := BxM.cells (MK.get sI 1 rfl)
          obtain ⟨m3, m4, m5⟩ := BxM.cells (MK.get sI 2 rfl)
          go_wp2_with fail
          clear m0 m1 m2 m3 m4 m5
          refine (C5 _ (MK.get sI 3 rfl) (MK.get sI 4 rfl) (MK.get sI 0 rfl)).mono ?_
          rintro e w5 ⟨rfl, hbl⟩
          have s6 := MT.next sI hbl
          clear sI hbl C5
          obtain ⟨m0, m1, m2⟩ := BxM.cells (MK.get s6 1 rfl)
          have hpl : w5.heap[K0 + 1]? = some (.cells #[.slice B1 F1 e1] 41) := MK.get s6 5 rfl
          have l0 : w5.cell? ⟨K0 + 1, 0, none⟩ = some (.slice B1 F1 e1) := by rw [cell_of_row _ _ _ _ _ _ hpl]; rfl
          clear hpl
          go_wp2_with fail
          clear m0 m1 m2 l0 hbb hrb
          refine (HCW.out _ (HR8.out.below s6.2.1)).mono ?_
          rintro e w6 ⟨B2, k2, q2, rfl, hk2, h12, hrd, hbl⟩
          have s7 := MK.putL (MT.next s6 hbl) hrd
          clear s6 hrd hbl HCW HR8
          have S7 := Lib.hid s7
          clear s7
          go_wp2_with fail
          go_loopw [14] (fun v wr => ∃ s : Nat, s ≤ q ∧ v = .int .i64 s ∧ Hid (Below w6.heap.size w6 wr)) (fun v _ => q - (intOf v).toNat)
          case atStart => exact ⟨0, Nat.zero_le _, rfl, Below.refl _ _⟩
          case round =>
            obtain ⟨s, hs, rfl, hbr⟩ := hrel
            have sI := MT.next S7.out hbr.out
            by_cases hsq : s < q ∧ β = true
            · obtain ⟨hsq, hβt⟩ := hsq
              have hsq' : decide ((s : Int) < q) = true := decide_eq_true (by omega)
              have hsqi : (s : Int) < q := by omega
              have hH : Mc.Hom M N f := HHom.out.1 hβt
              obtain ⟨b1, o1, x, hFe, hb1, hc1, hx⟩ := Rd.at_ (show Rd wr F f from MK.get sI 1 rfl) (k := s) (by rw [HQ.out]; exact hsq)
              subst hFe
              have hxs : Go.Proofs.Ytnodnfailjmpeaa.M.gz f s = x := hx.out
              have hrun : Hid (Mc.run M s Y = Mc.run N x Y) := by
                have := hH.run V.out V'.out HII.out (by rw [hlen.out, hlen'.out]; exact HPre.out) Y s (by rw [hlen.out]; exact hsq) HW.out
                rwa [hxs] at this
              have hxr := HPre.out s hsq
              rw [hxs] at hxr
              have HSM : Hid (Mc.St M s) := Or.inr ⟨by omega, by rw [hlen.out]; exact hsqi⟩
              have HSN : Hid (Mc.St N x) := Or.inr ⟨hxr.1, by rw [hlen'.out]; exact hxr.2⟩
              have HWN : Hid (Mc.Wd N Y) := fun c hc => by
                have := HW.out c hc
                rwa [HII.out] at this
              subst hβt
              clear hx hxs hxr hH
              go_upto_region 23 with fail
              go_cut [115] from 103 to 115 (fun f wx => f = .bool false ∧ Below wr.heap.size wr wx)
              case first =>
                have y0 : Below wr.heap.size wr wr.drew := (Below.refl _ _).drew
                have sD := MT.next sI (Below.refl _ _).drew
                obtain ⟨a0, a1, a2⟩ := BxM.cells (MK.get sI 2 rfl)
                obtain ⟨a3, a4, a5⟩ := BxM.cells (MK.get sI 3 rfl)
                go_region_held3 (fun w' => w'.cell? ⟨G, 0, none⟩ = some (.int .i64 i) ∧ w'.cell? ⟨G, 1, none⟩ = some (.int .i64 o) ∧ w'.cell? ⟨G, 2, none⟩ = some (.slice R q c1) ∧ w'.cell? ⟨H, 0, none⟩ = some (.int .i64 i) ∧ w'.cell? ⟨H, 1, none⟩ = some (.int .i64 o') ∧ w'.cell? ⟨H, 2, none⟩ = some (.slice S n' c2) ∧ w'.cell? ⟨b1, o1 + s, none⟩ = some (.int .i64 x))
                  (first | exact ⟨x30, x31, x32, x33, x34, x35, x36⟩ | exact ⟨x20, x21, x22, x23, x24, x25, x26⟩ | exact ⟨x10, x11, x12, x13, x14, x15, x16⟩ | exact ⟨a0, a1, a2, a3, a4, a5, hc1⟩ | go_keep)
                  (first
                    | (go_at_call 25
                       (with_reducible refine (rrun_at M i o R q c1 _ s B2 k2 q2 Y V.out hmi.out hmo.out hlen.out hk2.out (MK.get sD 4 rfl) (MK.get sD 0 rfl) HSM.out HW.out (by omega)).mono ?_)
                       rintro e wa1 ⟨B7, q7, rfl, hr7, hb1'⟩
                       have t1 := MK.putL (MT.next sD hb1') hr7
                       have y1 := below_next y0 hb1'
                       obtain ⟨x10, x11, x12⟩ := BxM.cells (MK.get t1 3 rfl)
                       obtain ⟨x13, x14, x15⟩ := BxM.cells (MK.get t1 4 rfl)
                       have x16 := (y1.cell (p := ⟨b1, o1 + s, none⟩) hb1).trans hc1
                       dsimp only)
                    | (go_at_call 25
                       (with_reducible refine (rrun_at N i o' S n' c2 _ x B2 k2 q2 Y V'.out hmi'.out hmo'.out hlen'.out hk2.out (MK.get t1 6 rfl) (MK.get t1 1 rfl) HSN.out HWN.out (by omega)).mono ?_)
                       rintro e wa2 ⟨B8, q8, rfl, hr8', hb2'⟩
                       have t2 := MK.putL (MT.next t1 hb2') hr8'
                       have y2 := below_next y1 hb2'
                       obtain ⟨x20, x21, x22⟩ := BxM.cells (MK.get t2 4 rfl)
                       obtain ⟨x23, x24, x25⟩ := BxM.cells (MK.get t2 5 rfl)
                       have x26 := (y2.cell (p := ⟨b1, o1 + s, none⟩) hb1).trans hc1
                       dsimp only)
                    | (go_at_call 24
                       (with_reducible refine (rsame9_yes B7 B8 k2 q7 q8 (Mc.run N x Y) _ (by rw [← hrun.out]; exact (MK.get t2 1 rfl)) (MK.get t2 0 rfl) (by rw [Mc.run_len]; exact hk2.out) (by omega)).mono ?_)
                       rintro e wa3 ⟨rfl, hb3'⟩
                       have t3 := MT.next t2 hb3'
                       have y3 := below_next y2 hb3'
                       obtain ⟨x30, x31, x32⟩ := BxM.cells (MK.get t3 4 rfl)
                       obtain ⟨x33, x34, x35⟩ := BxM.cells (MK.get t3 5 rfl)
                       have x36 := (y3.cell (p := ⟨b1, o1 + s, none⟩) hb1).trans hc1
                       dsimp only)
                    | fail)
                all_goals
                  go_wp2_with fail
                  go_meet
                  exact ⟨rfl, y3⟩
              case rest =>
              obtain ⟨rfl, hbc⟩ := hcut
              have hbr2 := Lib.hid (below_next hbr.out hbc)
              clear sI hbc hc1
              go_wp2_with fail
              go_roundw
              case rel => exact ⟨s + 1, by omega, by go_num, hbr2⟩
              case measure => simp [intOf]; omega
            · have hF := Lib.hid sI.2.1
              clear sI
              by_cases hsq2 : s < q
              · have hβf : β = false := by
                  cases hb : β with
                  | false => rfl
                  | true => exact absurd ⟨hsq2, hb⟩ hsq
                subst hβf
                have hsq' : decide ((s : Int) < q) = true := decide_eq_true (by omega)
                have hsqi : (s : Int) < q := by omega
                go_wp2_with fail
                refine (qlives_walk _).mono ?_
                rintro e w10 ⟨rfl, hbl⟩
                have hfin := Lib.hid (below_next hF.out hbl)
                clear hF hbl
                go_wp2_with fail
                go_ret
                exact ⟨rfl, hfin.out⟩
              · have hsq' : decide ((s : Int) < q) = false := decide_eq_false (by omega)
                have hsqi : ¬ (s : Int) < q := by omega
                go_wp2_with fail
                refine (qlives_walk _).mono ?_
                rintro e w10 ⟨rfl, hbl⟩
                have hfin := Lib.hid (below_next hF.out hbl)
                clear hF hbl
                go_wp2_with fail
                go_ret
                exact ⟨rfl, hfin.out⟩
      · have hzE : z = Z := by
          rcases hWn.out with ⟨_, h1⟩ | ⟨h1, _⟩
          · exact h1
          · exact absurd h1 hz
        subst hzE
        have hβf : β = false := HB0.out hz
        subst hβf
        have hzb : (z == 0) = false := by rw [beq_eq_false_iff_ne]; exact hz
        have hzn : (z != 0) = true := by simpa using hz
        have hzz : (z == z) = true := by simp
        have hF := Lib.hid sI.2.1
        have HZN := Lib.hid hz
        clear sI hWn hz
        by_cases hsq : s < q
        · have hsq' : decide ((s : Int) < q) = true := decide_eq_true (by omega)
          have hsqi : (s : Int) < q := by omega
          go_wp2_with fail
          refine (qlives_walk _).mono ?_
          rintro e w10 ⟨rfl, hbl⟩
          have hfin := Lib.hid (below_next hF.out hbl)
          clear hF hbl
          go_wp2_with fail
          go_ret
          exact ⟨rfl, hfin.out⟩
        · have hsq' : decide ((s : Int) < q) = false := decide_eq_false (by omega)
          have hsqi : ¬ (s : Int) < q := by omega
          go_wp2_with fail
          refine (qlives_walk _).mono ?_
          rintro e w10 ⟨rfl, hbl⟩
          have hfin := Lib.hid (below_next hF.out hbl)
          clear hF hbl
          go_wp2_with fail
          go_ret
          exact ⟨rfl, hfin.out⟩
end Go.Proofs.Ytnodnfailjmpeaa
