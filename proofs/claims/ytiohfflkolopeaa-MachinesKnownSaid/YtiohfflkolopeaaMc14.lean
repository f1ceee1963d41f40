/-
  Contracts in the words of a walk: M.Of, W.Of, the reference's Run, After, Complete.
-/
import Derived.Test.YtiohfflkolopeaaMc11
import Derived.Test.YtiohfflkolopeaaMd8
import Derived.Test.YtiohfflkolopeaaMd4
namespace Go.Proofs.Ytiohfflkolopeaa
open Go.RowKit
open Mc (Ed Ma)

namespace Mc
theorem sym_wd {m : Ma} {i : Int} {zs : List Int} (hi : m.i = i) (h1 : 1 ≤ i) : Wd m (M.sym i zs) := by
  intro c hc
  have hc : c ∈ (zs.take 12).map (· % i) := hc
  obtain ⟨z, _, rfl⟩ := List.mem_map.1 hc
  rw [hi]
  exact ⟨Int.emod_nonneg _ (by omega), Int.emod_lt_of_pos _ (by omega)⟩
theorem sym_len (i : Int) (zs : List Int) : (M.sym i zs).length ≤ 12 := by
  show ((zs.take 12).map (· % i)).length ≤ 12
  rw [List.length_map, List.length_take]; omega
theorem run_at {m : Ma} {s : Int} {ws : List Int} {q : Nat} (h : q < ws.length) : (run m s ws)[q]? = some (tke m s ws q).2 := by
  have e : ws = ws.take q ++ (ws[q] :: ws.drop (q + 1)) := by
    have h1 : ws.drop q = ws[q] :: ws.drop (q + 1) := List.drop_eq_getElem_cons h
    rw [← h1, List.take_append_drop]
  conv => lhs; rw [e, run_app]
  have hl : (run m s (ws.take q)).length = q := by rw [run_len, List.length_take]; omega
  rw [List.getElem?_append_right (by omega), hl, Nat.sub_self]
  simp [run, tke, stt, List.getElem?_eq_getElem h]
/-- A complete machine never gets stuck. -/
theorem cmp_nx {m : Ma} (v : Val m) (hc : ((dfd m.r : Int) == m.r.length * m.i) = true) {s c : Int} (hs : 0 ≤ s ∧ s < m.r.length) (hi : 0 ≤ c ∧ c < m.i) : 0 ≤ (nx m s c).1 := by
  have h1 : cmpV m = true := by unfold cmpV; rw [if_pos (chk_of v)]; exact hc
  rw [cmp_all v, List.all_eq_true] at h1
  obtain ⟨s, rfl⟩ := Int.eq_ofNat_of_zero_le hs.1
  obtain ⟨c, rfl⟩ := Int.eq_ofNat_of_zero_le hi.1
  have hl : s < m.r.length := by omega
  have hrow := v.len m.r[s] (List.getElem_mem hl)
  have hil : c < (m.r[s]).length := by omega
  rw [nx_at (List.getElem?_eq_getElem hl) (List.getElem?_eq_getElem hil)]
  have := h1 _ (List.mem_of_getElem? (pl_at (List.getElem?_eq_getElem hl) (List.getElem?_eq_getElem hil)))
  simpa using this
theorem cmp_stt {m : Ma} (v : Val m) (hc : ((dfd m.r : Int) == m.r.length * m.i) = true) {s : Int} {ws : List Int} (hs : 0 ≤ s ∧ s < m.r.length) (hw : Wd m ws) : ∀ q, q ≤ ws.length → 0 ≤ stt m s ws q
  | 0, _ => by rw [stt_zero]; exact hs.1
  | q + 1, h => by
    have ih := cmp_stt v hc hs hw q (by omega)
    rw [stt_next (by omega)]
    have hst := stt_st v (ws := ws) (.inr hs) hw q
    have hst2 : 0 ≤ stt m s ws q ∧ stt m s ws q < m.r.length := by
      rcases hst with h1 | h1
      · omega
      · exact h1
    unfold tke
    refine cmp_nx v hc hst2 (hw _ ?_)
    rw [List.getElem?_eq_getElem (show q < ws.length by omega)]
    exact List.getElem_mem _
theorem cmp_run {m : Ma} (v : Val m) (hc : ((dfd m.r : Int) == m.r.length * m.i) = true) {s : Int} {ws : List Int} (hs : 0 ≤ s ∧ s < m.r.length) (hw : Wd m ws) {q : Nat} (h : q < ws.length) : 0 ≤ (tke m s ws q).2 := by
  have h1 := cmp_stt v hc hs hw (q + 1) (by omega)
  rw [stt_next h] at h1
  have hm : ((ws[q]?).getD 0) ∈ ws := by rw [List.getElem?_eq_getElem h]; exact List.getElem_mem _
  exact (nx_st v (stt_st v (ws := ws) (.inr hs) hw q) (hw _ hm)).2.2.2.2 h1
end Mc
theorem BxE.set2 {w : World} {g : Nat} {a b x y : Int} (h : BxE w g a b) : BxE ((w.setCell ⟨g, 0, none⟩ (.int .i64 x)).setCell ⟨g, 1, none⟩ (.int .i64 y)) g x y := by
  unfold BxE at h ⊢
  simp [World.setCell, Array.getElem?_modify, h]
theorem MK.putO {E : World → Prop} {w w1 : World} {L : List (World → Prop)} (h : MK E w w1 L) {g : Nat} {o : Obj} (hr : w1.heap[g]? = some o) : MK E w w1 ((fun w => w.heap[g]? = some o) :: L) := h.put (fun _ _ h hb => (hb.block g (heap_lt h)).trans h) hr
/-- What Of hands back, in the words of a walk. -/
theorem mof_at (a b d : Int) (p : Bool) (A : Option Addr) (c : Nat) (es : List Int) (n i o : Nat) (w : World) (hr : Rd16 w A es) (hl : es.length ≤ 9223372036854775807) (ha : 0 ≤ a ∧ a ≤ 255) (hb : 0 ≤ b ∧ b ≤ 255) (hd : 0 ≤ d ∧ d ≤ 255)
    (hn : 1 + a % 6 = n) (hi : 1 + b % 3 = i) (ho : 1 + d % 3 = o) :
    Calls Try.prog 28 #[.agg #[.int .u8 a, .int .u8 b, .int .u8 d, .bool p, .slice A es.length c]] w fun e w' => ∃ B k, e = .returned (.agg #[.int .i64 i, .int .i64 o, .slice B n k]) ∧ RdR w' B (Mc.mkN p n i o es).r ∧ Below w.heap.size w w' := by
  refine (mof_any a b d p A c es n i o w hr hl ha hb hd hn hi ho).mono ?_
  rintro e w' ⟨V, vs, rfl, hB, hbl⟩
  obtain ⟨B, k, rfl, _, _, _, hrd⟩ := hB.out.rd
  rw [Mc.mkN_len]
  exact ⟨B, k, rfl, hrd, hbl⟩
/-- What a word of plain data hands back, in the words of a walk. -/
theorem wof_at (A : Option Addr) (c : Nat) (zs : List Int) (n : Nat) (w : World) (h : Rd8 w A zs) (h1 : 1 ≤ n) (h2 : n ≤ 16) (hm : zs.length ≤ 9223372036854775807) :
    Calls Try.prog 32 #[.agg #[.slice A zs.length c], .int .i64 n] w fun e w' => ∃ B k q, e = .returned (.slice B k q) ∧ Hid ((M.sym n zs).length = k) ∧ k ≤ 12 ∧ k ≤ q ∧ Rd w' B (M.sym n zs) ∧ Below w.heap.size w w' := by
  refine (of_any A c zs n w h (by omega) (by omega) hm).mono ?_
  rintro e w' ⟨B, q, rfl, hrd, hc, hb⟩
  exact ⟨B, _, q, rfl, rfl, Mc.sym_len _ _, hc, hrd, hb⟩
/-- The reference's Run and After, in the words of a walk. -/
theorem rrun_at (m : Ma) (i o s : Int) (A W : Option Addr) (n c k d : Nat) (ws : List Int) (w : World) (v : Mc.Val m) (hi : m.i = i) (ho : m.o = o) (hn : m.r.length = n) (hk : ws.length = k) (hr : RdR w A m.r) (hw : Rd w W ws) (hs : Mc.St m s) (hwd : Mc.Wd m ws) (hl : k ≤ 65536) :
    Calls Try.prog 26 #[.agg #[.int .i64 i, .int .i64 o, .slice A n c], .int .i64 s, .slice W k d] w fun e w' => ∃ B q, e = .returned (.slice B k q) ∧ Rd w' B (Mc.run m s ws) ∧ Below w.heap.size w w' := by
  subst hi ho hn hk
  refine (rrun_any m s A W c d ws w v hr hw hs hwd hl).mono ?_
  rintro e w' ⟨B, q, rfl, h1, _, h2⟩
  rw [Mc.run_len]
  exact ⟨B, q, rfl, h1, h2⟩
theorem rafter_at (m : Ma) (i o s : Int) (A W : Option Addr) (n c k d : Nat) (ws : List Int) (w : World) (v : Mc.Val m) (hi : m.i = i) (ho : m.o = o) (hn : m.r.length = n) (hk : ws.length = k) (hr : RdR w A m.r) (hw : Rd w W ws) (hs : Mc.St m s) (hwd : Mc.Wd m ws) (hd : k ≤ d) :
    Calls Try.prog 27 #[.agg #[.int .i64 i, .int .i64 o, .slice A n c], .int .i64 s, .slice W k d] w fun e w' => e = .returned (.int .i64 (Mc.aft m s ws)) ∧ Below w.heap.size w w' := by
  subst hi ho hn hk
  exact rafter_any m A c v ws s W _ d w hr hw hs hwd rfl hd
theorem complete_at (m : Ma) (i o : Int) (A : Option Addr) (n c : Nat) (w : World) (v : Mc.Val m) (hi : m.i = i) (ho : m.o = o) (hn : m.r.length = n) (hr : RdR w A m.r) :
    Calls Try.prog 29 #[.agg #[.int .i64 i, .int .i64 o, .slice A n c]] w fun e w' => e = .returned (.bool ((Mc.dfd m.r : Int) == m.r.length * m.i)) ∧ Below w.heap.size w w' := by
  subst hi ho hn
  exact complete_any m A c w v hr
end Go.Proofs.Ytiohfflkolopeaa
