/-
  Contracts: After, Run. No statement is proved here.
-/
import Derived.Test.YtiohfflkolopeaaMd8
import Derived.Test.YtiohfflkolopeaaMc6
namespace Go.Proofs.Ytiohfflkolopeaa
open Go.RowKit
open Mc (Ed Ma Pe)
attribute [local go_sem] Oper.semAt_some

/-- Block g is known whole: the ints cs. -/
def Blk (w : World) (g : Nat) (cs : List Int) : Prop := w.heap[g]? = some (.cells (ints cs).toArray 3 (0, 0))
section
variable {w w' : World} {g : Nat} {cs : List Int}
theorem Blk.lt (h : Blk w g cs) : g < w.heap.size := hlt h
theorem Blk.at_ (h : Blk w g cs) {k : Nat} (hk : k < cs.length) : w.cell? ⟨g, k, none⟩ = some (.int .i64 (cs[k]?.getD 0)) ∧ w.frozen? ⟨g, k, none⟩ = false := by
  constructor
  · rw [cell_of_row w g k _ 3 (0, 0) h]
    simpa using ints_at hk
  · unfold Blk at h
    simp [World.frozen?, h]
theorem Blk.set_ (h : Blk w g cs) (k : Nat) (v : Int) : Blk (w.setCell ⟨g, k, none⟩ (.int .i64 v)) g (cs.set k v) := by
  unfold Blk at h ⊢
  simp [World.setCell, Array.getElem?_modify, h, ints, List.map_set]
theorem Blk.mvC {B : Nat} (h : Blk w g cs) (k : Cells B w w') : Blk w' g cs := k.same _ _ h rfl
theorem Blk.rd (h : Blk w g cs) : Rd w (some ⟨g, 0, none⟩) cs := Rd.of_block h
end

theorem wpListIn_make_ints {F : Fence} {m : Nat} (w : World) {ops : Array Oper} {rest : List Oper} {o : Oper} {a : Act} {Q : Exit → Act → World → Prop}
    (hg : o.guard = none) (l c : Operand) (hop : o.op = Op.makeSlice 26 l c) (L : Int) (n : Nat) (hl : a.eval l = .int .i64 L) (hc : a.eval c = .int .i64 L) (hL : L = (n : Int)) (hn : n ≤ 65537)
    (hK : ∀ w', Blk w' w.heap.size (List.replicate n 0) → Below w.heap.size w w' → wpListIn F m Try.prog ops Q rest (a.put o.dst (.slice (some ⟨w.heap.size, 0, none⟩) n n)) w') :
    wpListIn F m Try.prog ops Q (o :: rest) a w := by
  subst hL
  refine wpListIn_plain hg fun K hK' => ?_
  have hrun := run_make_row' (P := Try.prog) 26 3 (.int .i64 0) 8 Try.underlying26 int_info rfl .i64 .i64 n (by omega) (by omega) w
  unfold Oper.wpIn
  refine ⟨?_, ?_⟩
  · simp [Oper.about, hop]
  · rw [Oper.semAt_plain F _ _ (by rw [hop]; intro c hc'; cases hc')]
    simp [execOp, hop, hl, hc, hrun, Result.andThen]
    refine hK' _ _ (hK _ ?_ ((Below.refl _ _).alloc (Nat.le_refl _) _))
    show _ = _
    rw [heap_alloc_new]
    have e := toList_madeCells_one (.int .i64 0) n
    have e2 : madeCells #[.int .i64 0] n = (ints (List.replicate n 0)).toArray := by
      rw [← Array.toList_inj, e]
      simp [ints]
    rw [e2]

/-- The boxes that taken lays. -/
abbrev takenW (w : World) (i o s : Int) (A W : Option Addr) (n c k d : Nat) : World := ((boxM w i o A n c).alloc (.cells #[.int .i64 s] 3)).alloc (.cells #[.slice W k d] 26)
theorem taken_lies (w : World) (i o s : Int) (A W : Option Addr) (n c k d : Nat) : Below w.heap.size w (takenW w i o s A W n c k d) ∧ BxM (takenW w i o s A W n c k d) w.heap.size i o A n c ∧
    (takenW w i o s A W n c k d).cell? ⟨w.heap.size + 1, 0, none⟩ = some (.int .i64 s) ∧ (takenW w i o s A W n c k d).cell? ⟨w.heap.size + 1 + 1, 0, none⟩ = some (.slice W k d) ∧ (takenW w i o s A W n c k d).heap.size = w.heap.size + 3 := by
  refine ⟨((((Below.refl _ _).alloc (Nat.le_refl _) _).alloc (by simp) _).alloc (by simp; omega) _), ((BxM.new w i o A n c).mvB ((Below.refl _ _).alloc (Nat.le_refl _) _)).mvB ((Below.refl _ _).alloc (Nat.le_refl _) _), ?_, ?_, by simp⟩
  · exact ((Box.new_ (W := boxM w i o A n c) (by simp) (.int .i64 s) 3).alloc _).1
  · exact (Box.new_ (by simp) (.slice W k d) 26).1
theorem M.check_zero' {zs : List Int} {n : Int} (h : M.check zs n = 0) : n ≤ 16 ∧ 1 ≤ n ∧ zs.length ≤ 256 ∧ ∀ z ∈ zs, 0 ≤ z ∧ z < n := by
  unfold M.check at h
  by_cases h1 : 16 < n ∨ 256 < zs.length
  · rw [if_pos h1] at h; omega
  · rw [if_neg h1] at h
    by_cases h2 : n < 1
    · rw [if_pos h2] at h; omega
    · rw [if_neg h2] at h
      refine ⟨by omega, by omega, by omega, fun z hz => ?_⟩
      cases hb : M.badB n z
      · simp [M.badB] at hb; omega
      · have : zs.any (M.badB n) = true := List.any_eq_true.2 ⟨z, hz, hb⟩
        simp [M.badI, this] at h
theorem runE_ok0 {m : Ma} {s : Int} {ws : List Int} (h : Mc.runE m s ws = 0) : Mc.Val m ∧ Mc.St m s ∧ Mc.Wd m ws ∧ ws.length ≤ 256 := by
  have hc : Mc.cst m s = 0 := by
    rw [Mc.runE_cst] at h
    split at h
    · rename_i h1; exact absurd h h1
    · rename_i h1; simpa using h1
  obtain ⟨V, h1, h2⟩ := Mc.cst_val hc
  rw [Mc.runE_cst, if_neg (by simp [hc])] at h
  obtain ⟨_, _, hl, hv⟩ := M.check_zero' h
  exact ⟨V, .inr ⟨h1, h2⟩, hv, by omega⟩

set_option maxRecDepth 100000 in
set_option maxHeartbeats 1600000 in
theorem pafter_any (i o s : Int) (rs : List (List Ed)) (ws : List Int) (A W : Option Addr) (n c k d : Nat) (w : World) (hr : RdR w A rs) (hw : Rd w W ws) (hn : rs.length = n) (hnb : n ≤ 1000000) (hrl : ∀ row ∈ rs, row.length ≤ 1000000) (hk : ws.length = k) (hkb : k ≤ 1000000) :
    Calls Try.prog 23 #[.agg #[.int .i64 i, .int .i64 o, .slice A n c], .int .i64 s, .slice W k d] w fun e w' => e = .returned (.tuple #[.int .i64 (Mc.aftV ⟨i, o, rs⟩ s ws), .int .i64 (Mc.runE ⟨i, o, rs⟩ s ws)]) ∧ Below w.heap.size w w' := by
  subst hn hk
  have RL := Lib.hid hrl
  clear hrl
  have hb0 : Below w.heap.size w (boxM w i o A rs.length c) := (Below.refl _ _).alloc (Nat.le_refl _) _
  obtain ⟨m, _⟩ : ∃ m : Nat, True := ⟨3, trivial⟩
  refine (callsIn_wide (n := m)).1 ?_
  refine callsIn_of_wp_marks Try.func23 rfl trivial ?_
  simp only [Try.ntmps23, List.size_toArray, List.length_cons, List.length_nil, Nat.reduceAdd, Nat.reduceSub, Array.replicate_succ, Array.replicate_zero, List.push_toArray, List.append_toArray, List.nil_append, List.cons_append]
  gi_wp2_with fail
  refine wide_calls (checkWord_any i o s rs ws A W rs.length c ws.length d _ (hr.below hb0) (hw.below hb0) rfl hnb RL.out rfl hkb) ?_
  rintro e w1 ⟨rfl, hb1⟩
  have hB1 := below_next hb0 hb1
  have hM1 := (BxM.new w i o A rs.length c).mvB hb1
  have hz0 : w.heap.size < w1.heap.size := heap_lt hM1
  clear hb0 hb1
  obtain ⟨q0, q1, q2⟩ := hM1.cells
  by_cases hz : Mc.runE ⟨i, o, rs⟩ s ws = 0
  · obtain ⟨V, hSt, hWd, hle⟩ := runE_ok0 hz
    have hv : Hid (Mc.aftV ⟨i, o, rs⟩ s ws = Mc.aft ⟨i, o, rs⟩ s ws) := by show _ = _; unfold Mc.aftV; rw [if_pos hz]
    rw [hz]
    have hF0 : Fr1 w w.heap.size w1.heap.size i o A rs.length c (.int .i64 0) (w1.alloc (.cells #[.int .i64 0] 3)) :=
      ⟨hB1.alloc (by omega) _, hM1.mvB ((Below.refl _ _).alloc (Nat.le_refl _) _), Box.new _ _ _, Nat.le_refl _, by omega, by omega⟩
    obtain ⟨w2, hw2⟩ : ∃ w2, w1.alloc (.cells #[.int .i64 0] 3) = w2 := ⟨_, rfl⟩
    rw [hw2] at hF0
    obtain ⟨r, hrr⟩ : ∃ r, w1.heap.size = r := ⟨_, rfl⟩
    rw [hrr] at hF0 hz0
    clear q0 q1 q2 hM1
    have qf := hF0.br.2
    have qc := hF0.br.1
    have hF3 := hF0.put (.int .i64 s)
    obtain ⟨w9, hw9⟩ : ∃ w9, w2.setCell ⟨r, 0, none⟩ (.int .i64 s) = w9 := ⟨_, rfl⟩
    rw [hw9] at hF3
    have hs9 : r < w9.heap.size := hF3.br.lt
    obtain ⟨q0, q1, q2⟩ := hF3.bm.cells
    gi_wp2_with fail
    refine wide_calls (taken_any _ _ _ _ _ _ _ _ _ _) ?_
    rintro e w3 ⟨rfl, rfl⟩
    gi_wp2_with fail
    obtain ⟨hbx, hbM, hbs, hbw, hsz⟩ := taken_lies w9 i o s A W rs.length c ws.length d
    have hG := taken1_gives (m - 1) w9.heap.size (w9.heap.size + 1) (w9.heap.size + 1 + 1) ⟨i, o, rs⟩ s ws A W rs.length c ws.length d (fun b => b = r) w (takenW w9 i o s A W rs.length c ws.length d) V hSt hWd hr hw rfl rfl hkb (below_next hF3.bel hbx) hbM hbs hbw (by show ¬ _ = _; omega) (fun b h => by show w.heap.size ≤ b; omega) (fun b h => by rw [hsz]; omega)
    have hF1 := hF3.below hbx
    have hsW : w.heap.size ≤ (takenW w9 i o s A W rs.length c ws.length d).heap.size := by rw [hsz]; omega
    clear q0 q1 q2 qf qc hF3 hw9 hF0 hw2 hbx hbM hbs hbw
    refine range_list (m := m) 51 _ rfl (enters_of Try.func51 (by kernel_rfl) rfl) ((List.range ws.length).map (tv ⟨i, o, rs⟩ s ws)) (fun b => b = r) (fun b h => by rw [hsz]; omega) ?hps hG
      (fun k W => Fr1 w w.heap.size r i o A rs.length c (.int .i64 (Mc.stt ⟨i, o, rs⟩ s ws k)) W)
      (fun _ _ => False)
      (fun k A B h1 c => h1.cells c hsW) (fun c' A B h c => h) hF1 ?round ?done ?stop
    case hps => intro v hv; obtain ⟨p, _, rfl⟩ := List.mem_map.1 hv; rfl
    case round =>
      intro l k v W hk hW hI
      rw [List.getElem?_map, Option.map_eq_some_iff] at hk
      obtain ⟨k', hp, rfl⟩ := hk
      have hkl : k < ws.length := by have := (List.getElem?_eq_some_iff.1 hp).1; simpa using this
      rw [List.getElem?_range hkl] at hp
      injection hp with hp
      subst hp
      have HN := Lib.hid (Mc.stt_next (m := ⟨i, o, rs⟩) (s := s) hkl)
      obtain ⟨⟨x, y⟩, hxy⟩ : ∃ x, Mc.tke ⟨i, o, rs⟩ s ws k = x := ⟨_, rfl⟩
      rw [hxy] at HN
      simp only [tv, hxy]
      clear hxy
      gi_wp2_with fail
      refine ⟨(Below.refl _ _).alloc (Nat.le_refl _) _, fun W2 hc2 => ?_⟩
      obtain ⟨p0, p1, _, _⟩ := ((BxE.new W x y).mvC hc2).cells
      have hI2 := (hI.below ((Below.refl _ _).alloc (Nat.le_refl _) (.cells #[.int .i64 x, .int .i64 y] 39))).cells hc2 (by omega)
      have qc := hI2.br.1
      have qf := hI2.br.2
      clear hc2 hI hW
      have R : roundP (fun b => b = r) (fun k W => Fr1 w w.heap.size r i o A rs.length c (.int .i64 (Mc.stt ⟨i, o, rs⟩ s ws k)) W) (fun _ _ => False) k W2 .normal ⟨#[], []⟩ (W2.setCell ⟨r, 0, none⟩ (.int .i64 x)) := by
        refine ⟨?_, KA.one _ _ _⟩
        show Fr1 w w.heap.size r i o A rs.length c (.int .i64 (Mc.stt ⟨i, o, rs⟩ s ws (k + 1))) _
        rw [HN.out]
        exact hI2.put _
      have RH := Lib.hid R
      clear R
      gi_wp2_with fail
      exact RH.out
    case done =>
      intro N W hN hI hd
      have hst : Mc.stt ⟨i, o, rs⟩ s ws ((List.range ws.length).map (tv ⟨i, o, rs⟩ s ws)).length = Mc.aft ⟨i, o, rs⟩ s ws := by
        rw [List.length_map, List.length_range]; exact Mc.stt_all _ _ _ (Nat.le_refl _)
      replace hI : Fr1 w w.heap.size r i o A rs.length c (.int .i64 (Mc.aft ⟨i, o, rs⟩ s ws)) W := by rw [← hst]; exact hI
      clear hst
      have qc := hI.br.1
      have hI3 := hI.shut hd (Nat.le_trans hsW hN)
      simp only [marked]
      gi_wp2_with fail
      refine ⟨by simp, .inl ⟨_, _, rfl, run_takeDeferred hd, ?_⟩⟩
      refine ⟨.tuple #[.int .i64 (Mc.aft ⟨i, o, rs⟩ s ws), .int .i64 0], ?_, by rw [hv.out, hz], hI3.bel⟩
      simp [results, Try.f23, go_sem]
    case stop =>
      rintro N c' W hN h hd
      exact h.elim
  · have hzb : (Mc.runE ⟨i, o, rs⟩ s ws == 0) = false := by rw [beq_eq_false_iff_ne]; exact hz
    have hv : Hid (Mc.aftV ⟨i, o, rs⟩ s ws = 0) := by show _ = _; unfold Mc.aftV; rw [if_neg hz]
    obtain ⟨z, hzz⟩ : ∃ z, Mc.runE ⟨i, o, rs⟩ s ws = z := ⟨_, rfl⟩
    rw [hzz] at hz hzb ⊢
    have HZ := Lib.hid hzz
    clear hzz
    gi_wp2_with fail
    refine ⟨.tuple #[.int .i64 0, .int .i64 z], ?_, by rw [hv.out, HZ.out], hB1⟩
    simp [results, Try.f23, go_sem]
end Go.Proofs.Ytiohfflkolopeaa
