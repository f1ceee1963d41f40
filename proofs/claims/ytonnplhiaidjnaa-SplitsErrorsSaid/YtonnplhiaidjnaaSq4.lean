/-
  Contract of splits: search. No statement is proved here.
-/
import Derived.Test.YtonnplhiaidjnaaSq3
namespace Go.Proofs.Ytonnplhiaidjnaa
open Go.RowKit
open Mc (Ed Ma)

set_option maxRecDepth 1000000 in
theorem zero_heads : Try.zeroCells141.toList = List.replicate 8192 (Value.int .i64 0) := by kernel_rfl
theorem Hds.zero {w : World} {g : Nat} (h : w.heap[g]? = some (.cells Try.zeroCells141 141 (0, 0))) : Hds w g (fun _ _ => 0) (fun _ _ => 0) := by
  have hz := zero_heads
  obtain ⟨C, hC⟩ : ∃ C, Try.zeroCells141 = C := ⟨_, rfl⟩
  rw [hC] at h hz
  have hsz : C.size = 8192 := by rw [← Array.length_toList, hz, List.length_replicate]
  refine ⟨C, h, hsz, fun a b ha hb => ⟨?_, ?_⟩⟩
  · rw [← Array.getElem?_toList, hz, List.getElem?_replicate, if_pos (by omega)]; rfl
  · rw [← Array.getElem?_toList, hz, List.getElem?_replicate, if_pos (by omega)]; rfl
theorem Mor.none_ {m : Ma} {n L : Nat} (hn : m.r.length = n) (h : Mor m n (L + 1) (Mc.prs n).length false) : ∀ a b, a < m.r.length → b < m.r.length → Mc.sl m a b ≠ L + 1 := fun a b ha hb e => by
  by_cases hab : a = b
  · subst hab; rw [Mc.sl_same] at e; omega
  · have := h.2 ⟨a, b, Mc.dn_all (by omega) (by omega) hab, by omega, by omega, e⟩
    cases this

set_option maxRecDepth 100000 in
set_option maxHeartbeats 4000000 in
theorem search_any (m : Ma) (i : Nat) (o : Int) (R : Option Addr) (n c : Nat) (w : World) (v : Mc.Val m) (hi : m.i = i) (hn : m.r.length = n) (hr : RdR w R m.r) :
    Calls Try.prog 65 #[.agg #[.int .i64 i, .int .i64 o, .slice R n c]] w fun e w' => ∃ (g : Nat) (f h : Nat → Nat → Nat), e = .returned (.pointer (some ⟨g, 0, none⟩)) ∧ w.heap.size ≤ g ∧ Hid (Hds w' g f h) ∧ Hid (Mc.TbF m f h) ∧ Hid (Below w.heap.size w w') := by
  have hn64 : n ≤ 64 := by have := v.r1; omega
  have hn1 : 1 ≤ n := by have := v.r0; omega
  obtain ⟨W0, hW0⟩ : ∃ W0, boxM w i o R n c = W0 := ⟨_, rfl⟩
  have EB : Below w.heap.size w W0 := by rw [← hW0]; exact (Below.refl _ _).alloc (Nat.le_refl _) _
  have hsz : W0.heap.size = w.heap.size + 1 := by rw [← hW0]; simp
  have hM := BxM.new w i o R n c
  rw [hW0] at hM
  have hr0 := hr.below EB
  have CE := fun (w2 : World) (f h : Nat → Nat → Nat) (L : Nat) h0 H hT hL => extend_any m i o R n c W0.heap.size L f h W0 w2 v hi hn hr0 h0 (Nat.le_refl _) H hT hL
  have HV := Lib.hid v
  have HN := Lib.hid hn
  have HB := Lib.hid EB
  have HM := Lib.hid hM
  clear v hi hr hr0 EB hM
  go_enter Try.func65, Try.ntmps65
  go_wp2_with fail
  obtain ⟨X, hX2⟩ : ∃ X, W0.alloc (.cells Try.zeroCells141 141) = X := ⟨_, rfl⟩
  have hbX : Below W0.heap.size W0 X := by rw [← hX2]; exact (Below.refl _ _).alloc (Nat.le_refl _) _
  have hHX : Hid (Hds X W0.heap.size (fun _ _ => 0) (fun _ _ => 0)) := Hds.zero (by rw [← hX2]; exact heap_alloc_new W0 _)
  have hbX2 := Lib.hid hbX
  have hTX : Hid (Mc.Tb m (0 + 1) (fun _ _ => False) (fun _ _ => 0) (fun _ _ => 0)) := Mc.Tb.start m
  obtain ⟨g, hg⟩ : ∃ g, W0.heap.size = g := ⟨_, rfl⟩
  have hwg : w.heap.size ≤ g := by omega
  have hwg2 : w.heap.size < g := by omega
  have hge : w.heap.size + 1 = g := by omega
  rw [hg] at hHX hbX2 CE
  rw [hX2, hge]
  have hn' := HN.out
  clear hX2 hbX hW0 hn
  go_loopw [4] (fun v wr => ∃ (L : Nat) (f h : Nat → Nat → Nat), L < n ∧ v = .int .i64 ((L : Int) + 1) ∧ Hid (Hds wr g f h) ∧ Hid (Mc.Tb m (L + 1) (fun _ _ => False) f h) ∧ Hid (Below g W0 wr)) (fun v _ => n + 1 - (intOf v).toNat)
  case atStart => exact ⟨0, _, _, by omega, rfl, hHX, hTX, hbX2⟩
  case round =>
    clear hHX hTX hbX2
    obtain ⟨L, f, h, hL, rfl, hH, hT, hbr⟩ := hrel
    obtain ⟨m0, m1, m2⟩ := (BxM.cells (g := w.heap.size) (show BxM wr w.heap.size i o R n c from (hbr.out.block _ hwg2).trans HM.out))
    go_wp2_with fail
    clear m0 m1 m2
    refine (CE _ f h L hbr.out hH.out hT.out (by omega)).mono ?_
    rintro e w2 ⟨b, f', h', rfl, hH2, hT2, hM2, hb2⟩
    clear hH hT hbr
    cases b with
    | true =>
      obtain ⟨p, q, _, hp, hq, hs⟩ := hM2.out.1 rfl
      have hlt := Mc.sl_lt HV.out (s := p) (t := q) (by omega) (by omega)
      have hL2 : L + 1 < n := by omega
      have hT3 : Hid (Mc.Tb m (L + 1 + 1) (fun _ _ => False) f' h') := hT2.out.turn fun a b ha hb hab => Mc.dn_all (by omega) (by omega) hab
      clear hs hlt hp hq hT2 hM2
      go_wp2_with fail
      go_roundw
      case rel => exact ⟨L + 1, f', h', hL2, by go_num, hH2, hT3, hb2⟩
      case measure => simp [intOf]; omega
    | false =>
      have hTF : Hid (Mc.TbF m f' h') := hT2.out.fin HV.out (Mor.none_ HN.out hM2.out)
      have hbF : Hid (Below w.heap.size w w2) := HB.out.trans (hb2.out.mono hwg)
      clear hT2 hM2
      go_wp2_with fail
      go_ret
      exact ⟨g, f', h', rfl, hwg, hH2, hTF, hbF⟩
end Go.Proofs.Ytonnplhiaidjnaa
