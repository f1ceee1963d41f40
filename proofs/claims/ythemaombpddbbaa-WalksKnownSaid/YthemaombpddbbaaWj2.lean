/-
  The walk of WalksC. No statement is proved here.
-/
import Derived.Test.YthemaombpddbbaaWj1
import Derived.Test.YthemaombpddbbaaWeZ
import Derived.Test.YthemaombpddbbaaWfZ
namespace Go.Proofs.Ythemaombpddbbaa
open Go.RowKit
open Mc (Ed Ma)
namespace Mc
theorem word_rch {m : Ma} (v : Val m) {s : Nat} (h : Rch m 0 s) : ∃ w, Wd m w ∧ aft m 0 w = s := by
  induction h with
  | here => exact ⟨[], fun c hc => by simp at hc, rfl⟩
  | @step s i row x _ hs hi hx ih =>
    obtain ⟨w, h1, h2⟩ := ih
    have h3 := v.len row (List.mem_of_getElem? hs)
    have h4 := (List.getElem?_eq_some_iff.1 hi).1
    refine ⟨w ++ [(i : Int)], fun c hc => ?_, ?_⟩
    · rcases List.mem_append.1 hc with hc | hc
      · exact h1 c hc
      · obtain rfl : c = i := by simpa using hc
        omega
    · rw [aft_snoc, h2, nx_at hs hi]
      omega
/-- All states are reached: as many as there are. -/
theorem conn_asc {m : Ma} (v : Val m) (h : conn m = true) : (asc m).length = m.r.length := by
  rw [asc_len]
  have h1 := nodup_le m.r.length _ (ord_cls v).nd (ord_cls v).rg
  have hm : ∀ s, s < m.r.length → (s : Int) ∈ ord m := fun s hs => by
    obtain ⟨w, h2, h3⟩ := word_rch v ((conn_iff m).1 h s hs)
    exact ((ord_ord v).mem s).2 ⟨by omega, w, h2, h3⟩
  have h2 := nodup_le (ord m).length ((iota m.r.length).map (ix (ord m))) (by
      refine List.pairwise_map.2 ((iota_nd m.r.length).imp_of_mem fun {a b} ha hb hne e => hne ?_)
      obtain ⟨a1, a2⟩ := iota_mem.1 ha
      obtain ⟨b1, b2⟩ := iota_mem.1 hb
      obtain ⟨a, rfl⟩ := Int.eq_ofNat_of_zero_le a1
      obtain ⟨b, rfl⟩ := Int.eq_ofNat_of_zero_le b1
      exact ix_inj (hm a (by omega)) (hm b (by omega)) e) (fun z hz => by
      obtain ⟨a, ha, rfl⟩ := List.mem_map.1 hz
      obtain ⟨a1, a2⟩ := iota_mem.1 ha
      obtain ⟨a, rfl⟩ := Int.eq_ofNat_of_zero_le a1
      refine ⟨?_, ix_lt _⟩
      unfold ix
      rw [if_pos (hm a (by omega))]
      omega)
  rw [List.length_map, iota_len] at h2
  omega
end Mc
set_option maxRecDepth 100000 in
set_option maxHeartbeats 4000000 in
theorem lawC_walk (a b d : Int) (T : Option Addr) (tc : Nat) (ts : List Int) (A : Option Addr) (c : Nat) (es : List Int) (w : World) (hr8 : Rd8 w T ts) (hr : Rd16 w A es) (htl : ts.length ≤ 9223372036854775807) (ha : 0 ≤ a ∧ a ≤ 255) (hb : 0 ≤ b ∧ b ≤ 255) (hd : 0 ≤ d ∧ d ≤ 255) :
    Calls Try.prog 6 #[.agg #[.int .u8 a, .int .u8 b, .int .u8 d, .slice T ts.length tc, .slice A es.length c]] w fun e w' => e = .returned (.bool true) ∧ Below w.heap.size w w' := by
  obtain ⟨n, hn⟩ : ∃ n : Nat, 1 + a % 6 = n := ⟨(1 + a % 6).toNat, by omega⟩
  obtain ⟨i, hi⟩ : ∃ i : Nat, 1 + b % 3 = i := ⟨(1 + b % 3).toNat, by omega⟩
  obtain ⟨o, ho⟩ : ∃ o : Nat, 1 + d % 3 = o := ⟨(1 + d % 3).toNat, by omega⟩
  have CM := fun w h8 h => cof_any a b d T tc ts A c es n i o w h8 h htl ha hb hd hn hi ho
  have hn6 : n ≤ 6 := by omega
  have HR := Lib.hid hr
  have HR8 := Lib.hid hr8
  clear hr hr8 ha hb hd hn hi ho
  have s0 : MT w w [] := MT.start
  have s1 := MT.alloc s0 (.cells #[.int .u8 a, .int .u8 b, .int .u8 d, .slice T ts.length tc, .slice A es.length c] 69)
  clear s0
  go_enter Try.func6, Try.ntmps6
  go_wp2_with fail
  refine (CM _ (HR8.out.below s1.2.1) (HR.out.below s1.2.1)).mono ?_
  rintro e w1 ⟨M, R, c1, rfl, hCm, hrd, hbl⟩
  have s2 := MK.putB (g := w1.heap.size) (MT.alloc (MK.putR (MT.next s1 hbl) hrd) (.cells #[.int .i64 i, .int .i64 o, .slice R n c1] 30)) (heap_alloc_new w1 _)
  clear s1 hrd hbl CM HR HR8
  have V := Lib.hid hCm.out.val
  have hmi : Hid (M.i = i) := hCm.out.inp
  have hmo : Hid (M.o = o) := hCm.out.out
  have hlen : Hid (M.r.length = n) := hCm.out.len
  have hasc : Hid ((Mc.asc M).length = n) := by show _ = _; rw [Mc.conn_asc V.out hCm.out.con]; exact hlen.out
  have CE := fun w hr => reach_at M i o R n c1 w V.out hmi.out hmo.out hlen.out hr
  have CK := fun w hr => rmcheck_at M i o R n c1 w hmi.out hmo.out hlen.out hr (by omega)
  rw [show Mc.chk M = 0 from Mc.chk_of V.out] at CK
  obtain ⟨m0, m1, m2⟩ := BxM.cells (MK.get s2 0 rfl)
  go_wp2_with fail
  clear m0 m1 m2
  refine (CE _ (MK.get s2 1 rfl)).mono ?_
  rintro e w2 ⟨g, q, rfl, hq, hrd, hbl⟩
  obtain rfl : q = n := by rw [← hasc.out]; exact hq.out.symm
  have s3 := MT.next s2 hbl
  clear s2 hrd hbl CE hq hasc
  obtain ⟨m0, m1, m2⟩ := BxM.cells (MK.get s3 0 rfl)
  go_wp2_with fail
  clear m0 m1 m2
  refine (CK _ (MK.get s3 1 rfl)).mono ?_
  rintro e w3 ⟨rfl, hbl⟩
  have s4 := MT.next s3 hbl
  clear s3 hbl CK
  obtain ⟨m0, m1, m2⟩ := BxM.cells (MK.get s4 0 rfl)
  go_wp2_with fail
  clear m0 m1 m2
  have CC : ∀ w, RdR w R M.r → Calls Try.prog 35 #[.agg #[.int .i64 i, .int .i64 o, .slice R q c1]] w fun e w' => e = .returned (.bool true) ∧ Below w.heap.size w w' := fun w hr => by
    have := complete_any M R c1 w V.out hr
    rw [hmi.out, hmo.out, hlen.out] at this
    rwa [show ((Mc.dfd M.r : Int) == (q : Int) * (i : Int)) = true by rw [hCm.out.all]; simp] at this
  refine (CC _ (MK.get s4 1 rfl)).mono ?_
  rintro e w4 ⟨rfl, hbl⟩
  have s5 := MT.next s4 hbl
  clear s4 hbl CC
  obtain ⟨m0, m1, m2⟩ := BxM.cells (MK.get s5 0 rfl)
  go_wp2_with fail
  clear m0 m1 m2
  refine (lives_walk _).mono ?_
  rintro e w16 ⟨rfl, hb16⟩
  have hfin := below_next s5.2.1 hb16
  clear s5
  go_wp2
  go_ret
  exact ⟨rfl, hfin⟩
end Go.Proofs.Ythemaombpddbbaa
