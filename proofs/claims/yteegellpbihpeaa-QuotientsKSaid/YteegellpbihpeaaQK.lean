/-
  A proper machine as plain data: what Of hands back. No statement is proved here.
-/
import Derived.Test.YteegellpbihpeaaQr0
import Derived.Test.YteegellpbihpeaaWj1
import Derived.Test.YteegellpbihpeaaSMdZ
namespace Go.Proofs.Yteegellpbihpeaa
open Go.RowKit
open Mc (Ed Ma)

namespace Mc
theorem cmp_nx9 {m : Ma} (v : Val m) (hc : ((dfd m.r : Int) == m.r.length * m.i) = true) {s c : Nat} (hs : s < m.r.length) (hi : (c : Int) < m.i) : 0 ≤ (nx m s c).1 := by
  have h1 : cmpV m = true := by unfold cmpV; rw [if_pos (chk_of v)]; exact hc
  rw [cmp_all v, List.all_eq_true] at h1
  have hrow := v.len m.r[s] (List.getElem_mem hs)
  have hil : c < (m.r[s]).length := by omega
  rw [nx_at (List.getElem?_eq_getElem hs) (List.getElem?_eq_getElem hil)]
  have := h1 _ (List.mem_of_getElem? (pl_at (List.getElem?_eq_getElem hs) (List.getElem?_eq_getElem hil)))
  simpa using this
theorem qn_full {m : Ma} (v : Val m) (hc : ((dfd m.r : Int) == m.r.length * m.i) = true) : cmpV (qn m) = true := by
  have h := ord_ord v
  have C := h.cls v
  have vq := qn_val v
  obtain ⟨i, hie⟩ := Int.eq_ofNat_of_zero_le (show 0 ≤ m.i by have := v.i0; omega)
  have hd : dfd (qn m).r = (qn m).r.length * i := dfd_full fun row hrow => by
    refine ⟨by have := vq.len row hrow; rw [qn_i, hie] at this; omega, fun x hx => ?_⟩
    obtain ⟨s, hs, rfl⟩ := List.mem_map.1 (show row ∈ (fst_ m (ord m)).map _ from hrow)
    obtain ⟨y, hy, rfl⟩ := List.mem_map.1 hx
    have hsL := fst_mem hs
    have hsr := C.rg s hsL
    obtain ⟨s', rfl⟩ := Int.eq_ofNat_of_zero_le hsr.1
    have hl : s' < m.r.length := by omega
    rw [Int.toNat_natCast, List.getElem?_eq_getElem hl, Option.getD_some] at hy
    obtain ⟨c, hc'⟩ := List.mem_iff_getElem?.1 hy
    have hcl := (List.getElem?_eq_some_iff.1 hc').1
    have hw := v.len _ (List.getElem_mem hl)
    have e : nx m (s' : Int) c = y := nx_at (List.getElem?_eq_getElem hl) hc'
    have hci : (c : Int) < m.i := by omega
    have h0 : 0 ≤ (nx m (s' : Int) c).1 := cmp_nx9 v hc hl hci
    have hin := C.cl s' hsL c (by omega) hci h0
    rw [e] at hin
    obtain ⟨k, f, h1, _⟩ := (fst_qt v C).at_ y.1 hin
    show 0 ≤ mpg m (ord m) y.1
    rw [h1]
    omega
  unfold cmpV
  rw [if_pos (chk_of vq), hd, qn_i, hie]
  simp
/-- A proper machine of one to five states. -/
structure Km (i o : Nat) (m : Ma) : Prop where
  val : Val m
  inp : m.i = i
  out : m.o = o
  len : m.r.length ≤ 5
  own : qn m = m
  prp : prp m = 0
theorem Cm.km {n i o : Nat} {m : Ma} (h : Cm n i o m) (hn : n ≤ 5) : Km i o (qn m) where
  val := qn_val h.val
  inp := by rw [qn_i]; exact h.inp
  out := by rw [qn_o]; exact h.out
  len := by
    have h1 := qn_le h.val
    have h2 := h.len
    omega
  own := qn_own h.val
  prp := prp_qn h.val (qn_full h.val (by rw [h.all, h.len, h.inp]; simp))
end Mc
/-- What Of hands back. -/
def KofP (w : World) (i o : Nat) (e : Ending) (w' : World) : Prop := ∃ m B k d vs, e = .returned (.agg #[.int .i64 i, .int .i64 o, .slice B k d]) ∧ Hid (Mc.Km i o m) ∧ Hid (m.r.length = k) ∧ Hid (Bld w' w.heap.size (.slice B k d) m.r vs) ∧ Below w.heap.size w w'
set_option maxRecDepth 100000 in
set_option maxHeartbeats 2000000 in
theorem kof9_any (a b d : Int) (T : Option Addr) (tc : Nat) (ts : List Int) (A : Option Addr) (c : Nat) (es : List Int) (i o : Nat) (w : World) (hr8 : Rd8 w T ts) (hr : Rd16 w A es) (htl : ts.length ≤ 9223372036854775807) (ha : 0 ≤ a ∧ a ≤ 255) (hb : 0 ≤ b ∧ b ≤ 255) (hd : 0 ≤ d ∧ d ≤ 255)
    (hi : 1 + b % 3 = i) (ho : 1 + d % 3 = o) :
    Calls Try.prog 32 #[.agg #[.int .u8 a, .int .u8 b, .int .u8 d, .slice T ts.length tc, .slice A es.length c]] w (KofP w i o) := by
  obtain ⟨a', ha5⟩ : ∃ a', a % 5 = a' := ⟨_, rfl⟩
  obtain ⟨n, hn⟩ : ∃ n : Nat, 1 + a' % 6 = n := ⟨(1 + a' % 6).toNat, by omega⟩
  have hn5 : Hid (n ≤ 5) := by show n ≤ 5; omega
  have C1 := Lib.hid (fun w hr8 hr => cof_own a' b d T tc ts A c es n i o w hr8 hr htl (by omega) hb hd hn hi ho)
  obtain ⟨F, hF⟩ : ∃ F, es.length = F := ⟨_, rfl⟩
  obtain ⟨G, hG⟩ : ∃ G, ts.length = G := ⟨_, rfl⟩
  have HR := Lib.hid hr
  have HR8 := Lib.hid hr8
  rw [hF, hG] at C1 ⊢
  clear hF hG hr hr8 hb hd hn hi ho htl
  obtain ⟨a1, a2⟩ := ha
  obtain ⟨K0, hK0⟩ : ∃ K0, w.heap.size = K0 := ⟨_, rfl⟩
  go_enter Try.func32, Try.ntmps32
  go_wp2_with fail
  obtain ⟨w0, hw0⟩ : ∃ w0, (w.alloc (.cells #[.int .u8 a', .int .u8 b, .int .u8 d, .slice T G tc, .slice A F c] 67)).alloc (.cells #[.int .i64 0, .int .i64 0, .slice none 0 0] 30) = w0 := ⟨_, rfl⟩
  have hb0 : Below w.heap.size w w0 := by rw [← hw0]; exact ((Below.refl _ _).alloc (Nat.le_refl _) _).alloc (by simp) _
  have hZ0 : BxM w0 (K0 + 1) 0 0 none 0 0 := by
    have h := BxM.new (w.alloc (.cells #[.int .u8 a', .int .u8 b, .int .u8 d, .slice T G tc, .slice A F c] 67)) 0 0 none 0 0
    rw [World.size_alloc, hK0] at h
    rw [← hw0]
    exact h
  rw [hw0]
  have hsz : K0 + 2 ≤ w0.heap.size := by rw [← hw0]; simp; omega
  clear hw0
  refine (C1.out _ (HR8.out.below hb0) (HR.out.below hb0)).mono ?_
  rintro e w1 ⟨N, B, k, vs, rfl, hC, hB, hb1⟩
  have C2 := rqmin_any N i o B n k w1 hC.out.val hC.out.inp hC.out.out hC.out.len hB.out.two
  have hsz1 : K0 + 2 ≤ w1.heap.size := Nat.le_trans hsz hb1.size
  have hZ1 := hZ0.mvB hb1
  have hbw := below_next hb0 hb1
  have HKm := Lib.hid (hC.out.km hn5.out)
  clear C1 HR8 HR hB hb0 hb1 hZ0 hsz hC
  go_wp2_with fail
  refine C2.mono ?_
  rintro e w2 ⟨V, us, rfl, hk, hb2⟩
  obtain ⟨B2, d2, rfl, _⟩ := hk.rd
  obtain ⟨K, hK⟩ : ∃ K, (Mc.qn N).r.length = K := ⟨_, rfl⟩
  rw [hK] at hk ⊢
  have hzr := hZ1.mvB hb2
  obtain ⟨e0, e1, e2⟩ := hzr.cells
  obtain ⟨f0, f1, f2⟩ := hzr.frozen
  obtain ⟨s0, s1, s2⟩ := set3_reads hzr (.int .i64 i) (.int .i64 o) (.slice B2 K d2)
  have hfin : Hid (KofP w i o (.returned (.agg #[.int .i64 i, .int .i64 o, .slice B2 K d2])) (((w2.setCell ⟨K0 + 1, 0, none⟩ (.int .i64 i)).setCell ⟨K0 + 1, 1, none⟩ (.int .i64 o)).setCell ⟨K0 + 1, 2, none⟩ (.slice B2 K d2))) :=
    ⟨Mc.qn N, B2, K, d2, us, rfl, HKm, hK, (hk.set3 (g := K0 + 1) (by omega) _ _ _).base (by have := hbw.size; omega), below_set3' (below_next hbw hb2) (by omega) _ _ _⟩
  clear hk hzr hZ1 hbw hb2 C2 HKm hK hsz1 hn5
  go_wp2
  refine bodyPost_ret (v := .agg #[.int .i64 i, .int .i64 o, .slice B2 K d2]) (by simp [results, Try.f32, go_sem, s0, s1, s2]) rfl ?_
  exact hfin.out
end Go.Proofs.Yteegellpbihpeaa
