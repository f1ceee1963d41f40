/-
  Several texts in one: Wb2, Wb3, Wb4. No statement is proved here.
-/
import Derived.Test.YthemaombpddbbaaWbA
import Derived.Test.YthemaombpddbbaaWbr
namespace Go.Proofs.Ythemaombpddbbaa
open Go.RowKit
open Mc (Ed Ma Wv)
attribute [local go_sem] Oper.semAt_some

namespace Mc
theorem look_take {m : Ma} {s : Int} {L : List Wv} {p k : Nat} {j : Int} {x : Wv} (v : Val m) (h : BF m s L p j) (hk : L[k]? = some x) : (L.take k).lookup x.1 = none := by
  refine look_of_none fun e he e1 => ?_
  obtain ⟨a, ha⟩ := List.mem_iff_getElem?.1 he
  rw [List.getElem?_take] at ha
  split at ha
  · rename_i hak
    have h1 := h.nodup v
    have hkl := (List.getElem?_eq_some_iff.1 hk).1
    have hal := (List.getElem?_eq_some_iff.1 ha).1
    have := (List.pairwise_iff_getElem.1 h1) a k (by simpa using hal) (by simpa using hkl) hak
    rw [List.getElem_map, List.getElem_map] at this
    rw [List.getElem?_eq_getElem hal] at ha
    rw [List.getElem?_eq_getElem hkl] at hk
    injection ha with ha
    injection hk with hk
    rw [ha, hk] at this
    exact this e1
  · cases ha
theorem take_snocW {L : List Wv} {k : Nat} {x : Wv} (hk : L[k]? = some x) : L.take (k + 1) = L.take k ++ [x] := by
  rw [List.take_add_one, hk]
  rfl
/-- What Distances and Path tell. -/
def dstV (m : Ma) (s : Int) : List Int := if chkS m [s] = 0 then tab oD (wk m s) m.r.length else []
def pthV (m : Ma) (s t : Int) : List Int := if chkS m [s, t] = 0 then oW ((wk m s).lookup t) else []
def pthB (m : Ma) (s t : Int) : Bool := if chkS m [s, t] = 0 then oB ((wk m s).lookup t) else false
theorem chkS_ok {m : Ma} {l : List Int} (h : chkS m l = 0) : Val m ∧ ∀ s ∈ l, 0 ≤ s ∧ s < m.r.length := by
  unfold chkS at h
  split at h
  · rename_i h1
    exact absurd h h1
  · rename_i h1
    split at h
    · rename_i h2
      refine ⟨val_of (by simpa using h1), fun s hs => ?_⟩
      have := List.all_eq_true.1 h2 s hs
      simpa using this
    · cases h
end Mc

/-- The memory of Distances: the list, its box. -/
structure Ds (w : World) (gS gB n : Nat) (l : List Int) (W : World) : Prop where
  bel : Below w.heap.size w W
  bs : Box W gB (.slice (some ⟨gS, 0, none⟩) n n)
  bk : Blk W gS l
  sB : w.heap.size ≤ gB
  sS : w.heap.size ≤ gS
  ne : gS ≠ gB
theorem Ds.ch {w : World} {gS gB n M : Nat} {l : List Int} {W W' : World} (h : Ds w gS gB n l W) (k : Ch M W W') (h1 : gB < M) (hw : w.heap.size ≤ M) : Ds w gS gB n l W' :=
  ⟨k.below hw h.bel, h.bs.ch k h1, h.bk.ch k, h.sB, h.sS, h.ne⟩
theorem Ds.below {w : World} {gS gB n : Nat} {l : List Int} {W W' : World} (h : Ds w gS gB n l W) (k : Below W.heap.size W W') : Ds w gS gB n l W' :=
  ⟨below_next h.bel k, h.bs.below k, h.bk.mvB k, h.sB, h.sS, h.ne⟩
/-- What Distances hands back. -/
def DstP (w : World) (m : Ma) (s : Int) (e : Ending) (w' : World) : Prop := ∃ B k, e = .returned (.tuple #[.slice B k k, .int .i64 (Mc.chkS m [s])]) ∧ Hid ((Mc.dstV m s).length = k) ∧ Rd w' B (Mc.dstV m s) ∧ Below w.heap.size w w'

set_option maxRecDepth 100000 in
set_option maxHeartbeats 4000000 in
theorem wdist_any (i o : Int) (rs : List (List Ed)) (A : Option Addr) (n c : Nat) (s : Int) (w : World) (hr : RdR w A rs) (hn : rs.length = n) (hnb : n ≤ 1000000) (hrl : ∀ row ∈ rs, row.length ≤ 1000000) :
    Calls Try.prog 29 #[.agg #[.int .i64 i, .int .i64 o, .slice A n c], .int .i64 s] w (DstP w ⟨i, o, rs⟩ s) := by
  have RL := Lib.hid hrl
  have HN := Lib.hid hn
  obtain ⟨mm, _⟩ : ∃ mm : Nat, True := ⟨3, trivial⟩
  have hM0 := BxM.new w i o A n c
  have hb0 : Below w.heap.size w (boxM w i o A n c) := (Below.refl _ _).alloc (Nat.le_refl _) _
  have hb1 : Below w.heap.size w ((boxM w i o A n c).alloc (.cells #[.int .i64 s] 3)) := hb0.alloc (by simp) _
  have hS1 : Rd ((boxM w i o A n c).alloc (.cells #[.int .i64 s] 3)) (some ⟨w.heap.size + 1, 0, none⟩) [s] := by
    have := Rd.of_block (t := 3) (zs := [s]) (heap_alloc_new (boxM w i o A n c) _)
    rw [World.size_alloc] at this
    exact this
  have hM1 := hM0.mvB ((Below.refl _ _).alloc (Nat.le_refl _) (.cells #[.int .i64 s] 3))
  have hr1 := hr.below hb1
  clear hrl hb0 hM0
  refine (callsIn_wide (n := mm)).1 ?_
  refine callsIn_of_wp_marks Try.func29 rfl trivial ?_
  simp only [Try.ntmps29, List.size_toArray, List.length_cons, List.length_nil, Nat.reduceAdd, Nat.reduceSub, Array.replicate_succ, Array.replicate_zero, List.push_toArray, List.append_toArray, List.nil_append, List.cons_append]
  gi_wp2_with fail
  refine wide_calls (wcheck_any i o rs A n c _ 1 1 [s] _ hr1 hn hnb RL.out hS1 rfl (by omega)) ?_
  rintro e w2 ⟨rfl, hb2⟩
  have hB2 := below_next hb1 hb2
  have hM2 := hM1.mvB hb2
  have hz2 : w.heap.size < w2.heap.size := heap_lt hM2
  obtain ⟨q0, q1, q2⟩ := hM2.cells
  clear hb1 hS1 hM1 hr1 hb2
  by_cases hz : Mc.chkS ⟨i, o, rs⟩ [s] = 0
  · have hv : Hid (Mc.dstV ⟨i, o, rs⟩ s = Mc.tab Mc.oD (Mc.wk ⟨i, o, rs⟩ s) n) := by
      show _ = _
      unfold Mc.dstV
      rw [if_pos hz, hn]
    obtain ⟨V, hsr⟩ := Mc.chkS_ok hz
    have hs := hsr s (by simp)
    simp only [hn] at hs
    have HV := Lib.hid V
    have hr64 : n ≤ 64 := by have := V.r1; simp only [hn] at this; exact this
    have HZ := Lib.hid hz
    obtain ⟨hs0, hs1⟩ := hs
    obtain ⟨s, rfl⟩ := Int.eq_ofNat_of_zero_le hs0
    rw [hz]
    clear V hsr hz
    gi_wp2_with fail
    refine wide_calls (nones_any n w2 (by omega)) ?_
    rintro e w3 ⟨gS, rfl, hgS, hBk, hb3⟩
    have hB3 := below_next hB2 hb3
    have hM3 := hM2.mvB hb3
    have hz3 := hb3.size
    have hgl : gS < w3.heap.size := hBk.lt
    clear q0 q1 q2 hM2
    have q0 : ∀ ob, (w3.alloc ob).cell? ⟨w.heap.size, 0, none⟩ = some (.int .i64 i) := fun ob => (hM3.mvB ((Below.refl _ _).alloc (Nat.le_refl _) ob)).cells.1
    have q1 : ∀ ob, (w3.alloc ob).cell? ⟨w.heap.size, 1, none⟩ = some (.int .i64 o) := fun ob => (hM3.mvB ((Below.refl _ _).alloc (Nat.le_refl _) ob)).cells.2.1
    have q2 : ∀ ob, (w3.alloc ob).cell? ⟨w.heap.size, 2, none⟩ = some (.slice A n c) := fun ob => (hM3.mvB ((Below.refl _ _).alloc (Nat.le_refl _) ob)).cells.2.2
    gi_wp2_with fail
    refine wide_calls (walk_any _ _ _ _ _ _ _) ?_
    rintro e w4 ⟨rfl, rfl⟩
    gi_wp2_with fail
    obtain ⟨gB, hgB⟩ : ∃ gB, w3.heap.size = gB := ⟨_, rfl⟩
    obtain ⟨Wl, hWl⟩ : ∃ Wl, (boxM (w3.alloc (.cells #[.slice (some ⟨gS, 0, none⟩) n n] 32)) i o A n c).alloc (.cells #[.int .i64 s] 3) = Wl := ⟨_, rfl⟩
    rw [hgB, hWl]
    have hbB : Below w3.heap.size w3 Wl := by rw [← hWl]; exact (((Below.refl _ _).alloc (Nat.le_refl _) _).alloc (by simp) _).alloc (by simp; omega) _
    have hbw : Below w.heap.size w Wl := below_next hB3 hbB
    have hzl : Wl.heap.size = gB + 3 := by rw [← hWl, ← hgB]; simp
    have hbx : BxM Wl (gB + 1) i o A rs.length c := by
      rw [← hWl, ← hgB, hn]
      exact (BxM.newE (by simp) i o A n c).mvB ((Below.refl _ _).alloc (Nat.le_refl _) _)
    have hst : Wl.cell? ⟨gB + 1 + 1, 0, none⟩ = some (.int .i64 (s : Int)) := by
      rw [← hWl, ← hgB]
      exact (Box.new_ (by simp) (.int .i64 (s : Int)) 3).1
    have hDs : Ds w gS gB n (Mc.tab Mc.oD ((Mc.wk ⟨i, o, rs⟩ s).take 0) n) Wl := by
      refine ⟨hbw, ?_, ?_, by omega, by omega, by omega⟩
      · rw [← hWl, ← hgB]
        exact ((Box.new w3 (.slice (some ⟨gS, 0, none⟩) n n) 32).alloc _).alloc _
      · rw [List.take_zero, Mc.tab_nil]
        exact hBk.mvB hbB
    have hG : GivesW (mm - 1) 90 #[.pointer (some ⟨gB + 1 + 1, 0, none⟩), .pointer (some ⟨gB + 1, 0, none⟩)] (Mc.wk ⟨i, o, rs⟩ s) (fun b => b = gS ∨ b = gB) Wl :=
      walk1_gives (mm - 1) ⟨i, o, rs⟩ HV.out (gB + 1) (gB + 1 + 1) A c s (fun b => b = gS ∨ b = gB) w Wl hr hbw hbx hst (by simp only [hn]; omega) (fun h => by omega) (fun b h => by omega) (fun b h => by omega)
    have hBF := Lib.hid (Mc.wk_bf HV.out (s := (s : Int)) (by simp only [hn]; omega))
    clear q0 q1 q2 hM3 hBk hbB hbx hst hWl hB3 hb3 hB2
    refine range_words (m := mm) 90 _ rfl (enters_of Try.func90 (by kernel_rfl) rfl) (Mc.wk ⟨i, o, rs⟩ s) (fun b => b = gS ∨ b = gB) (fun b h => by omega) rfl hG
      (fun k W => Ds w gS gB n (Mc.tab Mc.oD ((Mc.wk ⟨i, o, rs⟩ s).take k) n) W) (fun _ _ => False) (fun k A B h c => h.ch c (by omega) (by omega)) (fun c' A B h _ => h.elim) hDs ?round ?done ?stop
    case round =>
      intro l k x X W hk hW hI hO
      obtain ⟨xs, xw⟩ := x
      have hx := (hBF.out.lw _ (List.mem_of_getElem? hk)).1
      simp only [hn] at hx
      obtain ⟨t, rfl⟩ := Int.eq_ofNat_of_zero_le hx.1
      have htn : t < n := by omega
      have HT := Lib.hid (Mc.tab_snoc (f := Mc.oD) (n := n) (w := xw) (Mc.look_take HV.out hBF.out hk))
      rw [← Mc.take_snocW hk] at HT
      obtain ⟨cs, hcs⟩ : ∃ cs, Mc.tab Mc.oD ((Mc.wk ⟨i, o, rs⟩ s).take k) n = cs := ⟨_, rfl⟩
      have hcl : Hid (cs.length = n) := by show _ = _; rw [← hcs]; exact Mc.tab_len
      rw [hcs] at hI HT
      simp only [wvv]
      clear hk hO hG hDs hcs hx
      gi_wp2_with fail
      refine ⟨Below.refl _ _, fun W2 hc2 => ?_⟩
      have hI2 := hI.ch (Ch.of_cells hc2) (by omega) (by omega)
      clear hI hc2
      have b0 := hI2.bs.1
      obtain ⟨c0, c1⟩ := hI2.bk.at_ (k := t) (by rw [hcl.out]; exact htn)
      obtain ⟨z, hzz⟩ : ∃ z, cs[t]?.getD 0 = z := ⟨_, rfl⟩
      rw [hzz] at c0
      have hI5 : Ds w gS gB n (Mc.tab Mc.oD ((Mc.wk ⟨i, o, rs⟩ s).take (k + 1)) n) (W2.setCell ⟨gS, t, none⟩ (.int .i64 xw.length)) := by
        rw [HT.out]
        exact ⟨hI2.bel.setCell (p := ⟨gS, t, none⟩) hI2.sS _, hI2.bs.far (fun e => hI2.ne e.symm) _, hI2.bk.set_ t _, hI2.sB, hI2.sS, hI2.ne⟩
      have R : roundP (fun b => b = gS ∨ b = gB) (fun k W => Ds w gS gB n (Mc.tab Mc.oD ((Mc.wk ⟨i, o, rs⟩ s).take k) n) W) (fun _ _ => False) k W2 .normal ⟨#[], []⟩ (W2.setCell ⟨gS, t, none⟩ (.int .i64 xw.length)) :=
        ⟨hI5, KA.set (D := fun b => b = gS ∨ b = gB) _ (.inl rfl) _⟩
      have RH := Lib.hid R
      clear R hI5 hI2 hzz
      gi_wp2_with fail
      exact RH.out
    case done =>
      intro N W hN hI hd
      rw [List.take_length] at hI
      have b0 := hI.bs.1
      have hB := Lib.hid hI.bk
      have hbel := Lib.hid hI.bel
      have hs3 := hI.sS
      have hfin : Hid (DstP w ⟨i, o, rs⟩ s (.returned (.tuple #[.slice (some ⟨gS, 0, none⟩) n n, .int .i64 0])) (W.putObj N (.deferred none))) := by
        have hc : Cells w.heap.size W (W.putObj N (.deferred none)) := Cells.put _ hd rfl (by omega)
        refine ⟨some ⟨gS, 0, none⟩, n, by rw [HZ.out], by rw [hv.out]; exact Mc.tab_len, ?_, hc.below (Nat.le_refl _) hbel.out⟩
        rw [hv.out]
        exact (hB.out.mvC hc).rd
      clear hI hDs hG
      simp only [marked]
      gi_wp2_with fail
      refine ⟨by simp, .inl ⟨_, _, rfl, run_takeDeferred hd, ?_⟩⟩
      refine ⟨.tuple #[.slice (some ⟨gS, 0, none⟩) n n, .int .i64 0], ?_, hfin.out⟩
      simp [results, Try.f29, go_sem]
    case stop =>
      rintro N c' W hN h hd
      exact h.elim
  · have hzb : (Mc.chkS ⟨i, o, rs⟩ [s] == 0) = false := by rw [beq_eq_false_iff_ne]; exact hz
    have hv : Hid (Mc.dstV ⟨i, o, rs⟩ s = []) := by
      show _ = _
      unfold Mc.dstV
      rw [if_neg hz]
    obtain ⟨z, hzz⟩ : ∃ z, Mc.chkS ⟨i, o, rs⟩ [s] = z := ⟨_, rfl⟩
    rw [hzz] at hz hzb ⊢
    have HZ := Lib.hid hzz
    have hzn : (z != 0) = true := by simpa using hz
    have hfin : Hid (DstP w ⟨i, o, rs⟩ s (.returned (.tuple #[.slice none 0 0, .int .i64 z])) w2) := ⟨none, 0, by rw [HZ.out], by rw [hv.out]; rfl, by rw [hv.out]; exact Rd.nil_, hB2⟩
    clear hzz
    gi_wp2_with fail
    refine ⟨.tuple #[.slice none 0 0, .int .i64 z], ?_, hfin.out⟩
    simp [results, Try.f29, go_sem]
end Go.Proofs.Ythemaombpddbbaa

namespace Go.Proofs.Ythemaombpddbbaa
open Go.RowKit
open Mc (Ed Ma Wv)
attribute [local go_sem] Oper.semAt_some

/-- The memory of Path: the state that is looked for, the results. -/
structure Ph (w : World) (h : Nat) (t : Int) (v : Value) (b : Bool) (e : Int) (W : World) : Prop where
  bel : Below w.heap.size w W
  bt : Box W (h + 1) (.int .i64 t)
  r0 : Box W (h + 1 + 1) v
  r1 : Box W (h + 1 + 1 + 1) (.bool b)
  r2 : Box W (h + 1 + 1 + 1 + 1) (.int .i64 e)
  hh : w.heap.size = h
section
variable {w W W' : World} {h : Nat} {t : Int} {v : Value} {b : Bool} {e : Int}
theorem Ph.ch {M : Nat} (x : Ph w h t v b e W) (k : Ch M W W') (h1 : h + 5 ≤ M) : Ph w h t v b e W' :=
  ⟨k.below (by have := x.hh; omega) x.bel, x.bt.ch k (by omega), x.r0.ch k (by omega), x.r1.ch k (by omega), x.r2.ch k (by omega), x.hh⟩
theorem Ph.below (x : Ph w h t v b e W) (k : Below W.heap.size W W') : Ph w h t v b e W' :=
  ⟨below_next x.bel k, x.bt.below k, x.r0.below k, x.r1.below k, x.r2.below k, x.hh⟩
theorem Ph.put (x : Ph w h t v b e W) (v' : Value) (b' : Bool) (e' : Int) : Ph w h t v' b' e' (((W.setCell ⟨h + 1 + 1, 0, none⟩ v').setCell ⟨h + 1 + 1 + 1, 0, none⟩ (.bool b')).setCell ⟨h + 1 + 1 + 1 + 1, 0, none⟩ (.int .i64 e')) := by
  have hh := x.hh
  exact ⟨((x.bel.setCell (p := ⟨h + 1 + 1, 0, none⟩) (by show _ ≤ h + 1 + 1; omega) _).setCell (p := ⟨h + 1 + 1 + 1, 0, none⟩) (by show _ ≤ h + 1 + 1 + 1; omega) _).setCell (p := ⟨h + 1 + 1 + 1 + 1, 0, none⟩) (by show _ ≤ h + 1 + 1 + 1 + 1; omega) _,
    ((x.bt.far (by omega) _).far (by omega) _).far (by omega) _, ((x.r0.set_ _).far (by omega) _).far (by omega) _, (((x.r1.far (by omega) _).set_ _).far (by omega) _), (((x.r2.far (by omega) _).far (by omega) _).set_ _), hh⟩
end
/-- The blocks of the results. -/
def PhD (h : Nat) (b : Nat) : Prop := b = h + 1 + 1 ∨ b = h + 1 + 1 + 1 ∨ b = h + 1 + 1 + 1 + 1
theorem PhD.ka (W : World) (h : Nat) (v : Value) (b : Bool) (e : Int) : KA (PhD h) W (((W.setCell ⟨h + 1 + 1, 0, none⟩ v).setCell ⟨h + 1 + 1 + 1, 0, none⟩ (.bool b)).setCell ⟨h + 1 + 1 + 1 + 1, 0, none⟩ (.int .i64 e)) :=
  ((KA.set (D := PhD h) _ (.inl rfl) _).trans (KA.set (D := PhD h) _ (.inr (.inl rfl)) _)).trans (KA.set (D := PhD h) _ (.inr (.inr rfl)) _)
/-- None of the first ones is the state that is looked for. -/
def NoT (L : List Wv) (k : Nat) (t : Int) : Prop := ∀ e ∈ L.take k, e.1 ≠ t
/-- What Path hands back. -/
def PthP (w : World) (m : Ma) (s t : Int) (e : Ending) (w' : World) : Prop := ∃ B k, e = .returned (.tuple #[.slice B k k, .bool (Mc.pthB m s t), .int .i64 (Mc.chkS m [s, t])]) ∧ Hid ((Mc.pthV m s t).length = k) ∧ Rd w' B (Mc.pthV m s t) ∧ Below w.heap.size w w'

set_option maxRecDepth 100000 in
set_option maxHeartbeats 4000000 in
theorem wpath_any (i o : Int) (rs : List (List Ed)) (A : Option Addr) (n c : Nat) (s t : Int) (w : World) (hr : RdR w A rs) (hn : rs.length = n) (hnb : n ≤ 1000000) (hrl : ∀ row ∈ rs, row.length ≤ 1000000) :
    Calls Try.prog 30 #[.agg #[.int .i64 i, .int .i64 o, .slice A n c], .int .i64 s, .int .i64 t] w (PthP w ⟨i, o, rs⟩ s t) := by
  have RL := Lib.hid hrl
  have HN := Lib.hid hn
  obtain ⟨mm, _⟩ : ∃ mm : Nat, True := ⟨3, trivial⟩
  obtain ⟨h, hh⟩ : ∃ h, w.heap.size = h := ⟨_, rfl⟩
  obtain ⟨W1, hW1⟩ : ∃ W1, ((((boxM w i o A n c).alloc (.cells #[.int .i64 t] 3)).alloc (.cells #[.slice none 0 0] 32)).alloc (.cells #[.bool false] 4)).alloc (.cells #[.int .i64 0] 34) = W1 := ⟨_, rfl⟩
  have hz1 : W1.heap.size = h + 5 := by rw [← hW1, ← hh]; simp
  have hP1 : Ph w h t (.slice none 0 0) false 0 W1 := by
    rw [← hW1]
    refine ⟨?_, ((Box.new_ (by simp [hh]) _ _).alloc _).alloc _ |>.alloc _, ((Box.new_ (by simp [hh]) _ _).alloc _).alloc _, (Box.new_ (by simp [hh]) _ _).alloc _, Box.new_ (by simp [hh]) _ _, hh⟩
    exact (((((Below.refl _ _).alloc (Nat.le_refl _) _).alloc (by simp) _).alloc (by simp; omega) _).alloc (by simp; omega) _).alloc (by simp; omega) _
  have hM1 : BxM W1 h i o A n c := by
    rw [← hW1]
    exact ((((BxM.newE hh i o A n c).mvB ((Below.refl _ _).alloc (Nat.le_refl _) _)).mvB ((Below.refl _ _).alloc (Nat.le_refl _) _)).mvB ((Below.refl _ _).alloc (Nat.le_refl _) _)).mvB ((Below.refl _ _).alloc (Nat.le_refl _) _)
  have hbA : Below W1.heap.size W1 (W1.alloc (.cells #[.int .i64 s, .int .i64 t] 3)) := (Below.refl _ _).alloc (Nat.le_refl _) _
  have hS1 : Rd (W1.alloc (.cells #[.int .i64 s, .int .i64 t] 3)) (some ⟨h + 5, 0, none⟩) [s, t] := by
    have := Rd.of_block (t := 3) (zs := [s, t]) (heap_alloc_new W1 _)
    rw [hz1] at this
    exact this
  obtain ⟨q0, q1, q2⟩ := hM1.cells
  have t0 := hP1.bt.1
  have hMA := hM1.mvB hbA
  have hPA := hP1.below hbA
  have hrA := hr.below hPA.bel
  clear hrl
  refine (callsIn_wide (n := mm)).1 ?_
  refine callsIn_of_wp_marks Try.func30 rfl trivial ?_
  simp only [Try.ntmps30, List.size_toArray, List.length_cons, List.length_nil, Nat.reduceAdd, Nat.reduceSub, Array.replicate_succ, Array.replicate_zero, List.push_toArray, List.append_toArray, List.nil_append, List.cons_append]
  gi_wp2_with fail
  refine wide_calls (wcheck_any i o rs A n c _ 2 2 [s, t] _ hrA hn hnb RL.out hS1 rfl (by omega)) ?_
  rintro e w2 ⟨rfl, hb2⟩
  have hP2 := hPA.below hb2
  have hM2 := hMA.mvB hb2
  have hz2 : h + 5 < w2.heap.size := by have h1 := hb2.size; rw [World.size_alloc, hz1] at h1; omega
  have hN2 : Hid (∀ r, PhD h r → r < w2.heap.size) := fun r hr => by unfold PhD at hr; omega
  clear q0 q1 q2 t0 hb2 hMA hPA hM1 hP1 hS1 hrA hbA hW1 hz1
  obtain ⟨q0, q1, q2⟩ := hM2.cells
  have t0 := hP2.bt.1
  have x0 := hP2.r0.1
  have y0 := hP2.r0.2
  have x1 := hP2.r1.1
  have y1 := hP2.r1.2
  have x2 := hP2.r2.1
  have y2 := hP2.r2.2
  by_cases hz : Mc.chkS ⟨i, o, rs⟩ [s, t] = 0
  · have hv : Hid (Mc.pthV ⟨i, o, rs⟩ s t = Mc.oW ((Mc.wk ⟨i, o, rs⟩ s).lookup t)) := by
      show _ = _
      unfold Mc.pthV
      rw [if_pos hz]
    have hvb : Hid (Mc.pthB ⟨i, o, rs⟩ s t = Mc.oB ((Mc.wk ⟨i, o, rs⟩ s).lookup t)) := by
      show _ = _
      unfold Mc.pthB
      rw [if_pos hz]
    obtain ⟨V, hsr⟩ := Mc.chkS_ok hz
    have hs := hsr s (by simp)
    simp only [hn] at hs
    have HV := Lib.hid V
    have hr64 : n ≤ 64 := by have := V.r1; simp only [hn] at this; exact this
    have HZ := Lib.hid hz
    obtain ⟨hs0, hs1⟩ := hs
    obtain ⟨s, rfl⟩ := Int.eq_ofNat_of_zero_le hs0
    rw [hz]
    clear V hsr hz
    gi_wp2_with fail
    refine wide_calls (walk_any _ _ _ _ _ _ _) ?_
    rintro e w4 ⟨rfl, rfl⟩
    gi_wp2_with fail
    obtain ⟨gB, hgB⟩ : ∃ gB, w2.heap.size = gB := ⟨_, rfl⟩
    obtain ⟨Wl, hWl⟩ : ∃ Wl, (boxM w2 i o A n c).alloc (.cells #[.int .i64 s] 3) = Wl := ⟨_, rfl⟩
    rw [hgB, hWl]
    have hbB : Below w2.heap.size w2 Wl := by rw [← hWl]; exact ((Below.refl _ _).alloc (Nat.le_refl _) _).alloc (by simp) _
    have hPl := hP2.below hbB
    have hbw := hPl.bel
    have hzl : Wl.heap.size = gB + 2 := by rw [← hWl, ← hgB]; simp
    have hbx : BxM Wl gB i o A rs.length c := by
      rw [← hWl, ← hgB, hn]
      exact (BxM.new w2 i o A n c).mvB ((Below.refl _ _).alloc (Nat.le_refl _) _)
    have hst : Wl.cell? ⟨gB + 1, 0, none⟩ = some (.int .i64 (s : Int)) := by
      rw [← hWl, ← hgB]
      exact (Box.new_ (by simp) (.int .i64 (s : Int)) 3).1
    have hG : GivesW (mm - 1) 90 #[.pointer (some ⟨gB + 1, 0, none⟩), .pointer (some ⟨gB, 0, none⟩)] (Mc.wk ⟨i, o, rs⟩ s) (PhD h) Wl :=
      walk1_gives (mm - 1) ⟨i, o, rs⟩ HV.out gB (gB + 1) A c s (PhD h) w Wl hr hbw hbx hst (by simp only [hn]; omega) (fun h => by unfold PhD at h; omega) (fun b h => by unfold PhD at h; omega) (fun b h => by unfold PhD at h; omega)
    have hBF := Lib.hid (Mc.wk_bf HV.out (s := (s : Int)) (by simp only [hn]; omega))
    have hhl : w.heap.size ≤ Wl.heap.size := hbw.size
    have hk0 : NoT (Mc.wk ⟨i, o, rs⟩ s) 0 t := fun e he => by simp at he
    clear q0 q1 q2 t0 x0 y0 x1 y1 x2 y2 hM2 hP2 hbB hbx hst hWl hbw
    refine range_words (m := mm) 90 _ rfl (enters_of Try.func90 (by kernel_rfl) rfl) (Mc.wk ⟨i, o, rs⟩ s) (PhD h) (fun b hb => by unfold PhD at hb; omega) rfl hG
      (fun k W => Ph w h t (.slice none 0 0) false 0 W ∧ NoT (Mc.wk ⟨i, o, rs⟩ s) k t)
      (fun c' W => c' = .ret ∧ ∃ (X : Option Addr) (xw : List Int), Ph w h t (.slice X xw.length xw.length) true 0 W ∧ OwnD (PhD h) W X xw ∧ Hid ((Mc.wk ⟨i, o, rs⟩ s).lookup t = some xw))
      (fun k A B h c => ⟨h.1.ch c (by omega), h.2⟩) (fun c' A B h c => by
        obtain ⟨h1, X, xw, h2, h3, h4⟩ := h
        exact ⟨h1, X, xw, h2.ch c (by omega), h3.ch c, h4⟩) ⟨hPl, hk0⟩ ?round ?done ?stop
    case round =>
      intro l k x X W hk hW hI hO
      obtain ⟨xs, xw⟩ := x
      obtain ⟨hI, hno⟩ := hI
      have HK := Lib.hid hk
      simp only [wvv]
      clear hk hG hPl hk0
      gi_wp2_with fail
      refine ⟨Below.refl _ _, fun W2 hc2 => ?_⟩
      have hI2 := hI.ch (Ch.of_cells hc2) (by omega)
      have hO2 := hO.cells hc2
      clear hI hc2 hO
      have t0 := hI2.bt.1
      have x0 := hI2.r0.1
      have y0 := hI2.r0.2
      obtain ⟨len, hlen⟩ : ∃ len, xw.length = len := ⟨_, rfl⟩
      have HLen := Lib.hid hlen
      have hX1 := (hI2.r0.set_ (.slice X len len))
      have x1 := (hI2.r1.far (c := h + 1 + 1) (by omega) (o := 0) (.slice X len len)).1
      have y1 := (hI2.r1.far (c := h + 1 + 1) (by omega) (o := 0) (.slice X len len)).2
      have x2 := ((hI2.r2.far (c := h + 1 + 1) (by omega) (o := 0) (.slice X len len)).far (c := h + 1 + 1 + 1) (by omega) (o := 0) (.bool true)).1
      have y2 := ((hI2.r2.far (c := h + 1 + 1) (by omega) (o := 0) (.slice X len len)).far (c := h + 1 + 1 + 1) (by omega) (o := 0) (.bool true)).2
      rw [hlen]
      by_cases hxt : xs = t
      · have hxb : (xs == t) = true := by rw [hxt]; exact beq_self_eq_true _
        have hfnd : Hid ((Mc.wk ⟨i, o, rs⟩ s).lookup t = some xw) := by
          have := hBF.out.mem_look HV.out (List.mem_of_getElem? HK.out)
          rw [hxt] at this
          exact this
        have hI5 := hI2.put (.slice X xw.length xw.length) true 0
        have hKA := PhD.ka W2 h (.slice X xw.length xw.length) true 0
        have R : roundP (PhD h) (fun k W => Ph w h t (.slice none 0 0) false 0 W ∧ NoT (Mc.wk ⟨i, o, rs⟩ s) k t) (fun c' W => c' = .ret ∧ ∃ (X : Option Addr) (xw : List Int), Ph w h t (.slice X xw.length xw.length) true 0 W ∧ OwnD (PhD h) W X xw ∧ Hid ((Mc.wk ⟨i, o, rs⟩ s).lookup t = some xw)) k W2 .ret ⟨#[], []⟩ (((W2.setCell ⟨h + 1 + 1, 0, none⟩ (.slice X xw.length xw.length)).setCell ⟨h + 1 + 1 + 1, 0, none⟩ (.bool true)).setCell ⟨h + 1 + 1 + 1 + 1, 0, none⟩ (.int .i64 0)) :=
          ⟨⟨rfl, X, xw, hI5, hO2.keep (KC.of_all hKA), hfnd⟩, hKA⟩
        rw [hlen] at R
        have RH := Lib.hid R
        clear R hI5 hKA hI2 hO2 hX1 hlen hxt hno
        gi_wp2_with fail
        exact RH.out
      · have hxb : (xs == t) = false := by rw [beq_eq_false_iff_ne]; exact hxt
        have hno2 : NoT (Mc.wk ⟨i, o, rs⟩ s) (k + 1) t := fun e he => by
          rw [Mc.take_snocW HK.out] at he
          rcases List.mem_append.1 he with he | he
          · exact hno e he
          · simp at he
            subst he
            exact hxt
        have R : roundP (PhD h) (fun k W => Ph w h t (.slice none 0 0) false 0 W ∧ NoT (Mc.wk ⟨i, o, rs⟩ s) k t) (fun c' W => c' = .ret ∧ ∃ (X : Option Addr) (xw : List Int), Ph w h t (.slice X xw.length xw.length) true 0 W ∧ OwnD (PhD h) W X xw ∧ Hid ((Mc.wk ⟨i, o, rs⟩ s).lookup t = some xw)) k W2 .normal ⟨#[], []⟩ W2 :=
          ⟨⟨hI2, hno2⟩, KA.refl _⟩
        have RH := Lib.hid R
        clear R hI2 hO2 hX1 hlen hxt hno
        gi_wp2_with fail
        exact RH.out
    case done =>
      intro N W hN hI hd
      obtain ⟨hI, hno⟩ := hI
      have hlk : Hid ((Mc.wk ⟨i, o, rs⟩ s).lookup t = none) := Mc.look_of_none (by unfold NoT at hno; rwa [List.take_length] at hno)
      have x0 := hI.r0.1
      have y0 := hI.r0.2
      have x1 := (hI.r1.far (c := h + 1 + 1) (by omega) (o := 0) (.slice none 0 0)).1
      have y1 := (hI.r1.far (c := h + 1 + 1) (by omega) (o := 0) (.slice none 0 0)).2
      have x2 := ((hI.r2.far (c := h + 1 + 1) (by omega) (o := 0) (.slice none 0 0)).far (c := h + 1 + 1 + 1) (by omega) (o := 0) (.bool false)).1
      have y2 := ((hI.r2.far (c := h + 1 + 1) (by omega) (o := 0) (.slice none 0 0)).far (c := h + 1 + 1 + 1) (by omega) (o := 0) (.bool false)).2
      have hI5 := hI.put (.slice none 0 0) false 0
      have hd5 : (((W.setCell ⟨h + 1 + 1, 0, none⟩ (.slice none 0 0)).setCell ⟨h + 1 + 1 + 1, 0, none⟩ (.bool false)).setCell ⟨h + 1 + 1 + 1 + 1, 0, none⟩ (.int .i64 0)).heap[N]? = some (.deferred (some [])) :=
        (Below.heap_setCell _ _ _ N (by show N ≠ h + 1 + 1 + 1 + 1; omega)).trans ((Below.heap_setCell _ _ _ N (by show N ≠ h + 1 + 1 + 1; omega)).trans ((Below.heap_setCell _ _ _ N (by show N ≠ h + 1 + 1; omega)).trans hd))
      have hI6 := hI5.ch (Ch.of_cells (Cells.put (B := h + 5) (.deferred none) hd5 rfl (by omega))) (Nat.le_refl _)
      have HI6 := Lib.hid hI6
      have HD5 := Lib.hid hd5
      clear hI hG hPl hI5 hI6 hd5
      simp only [marked]
      gi_wp2_with fail
      refine ⟨by simp, .inl ⟨_, _, rfl, run_takeDeferred HD5.out, ?_⟩⟩
      refine ⟨.tuple #[.slice none 0 0, .bool false, .int .i64 0], ?_, ⟨none, 0, by rw [hvb.out, hlk.out, HZ.out]; rfl, by rw [hv.out, hlk.out]; rfl, by rw [hv.out, hlk.out]; exact Rd.nil_, HI6.out.bel⟩⟩
      simp [results, Try.f30, go_sem, HI6.out.r0.1, HI6.out.r1.1, HI6.out.r2.1]
    case stop =>
      rintro N c' W hN ⟨rfl, X, xw, hI, hO, hlk⟩ hd
      have hc := Cells.put (B := h + 5) (.deferred none) hd rfl (by omega)
      have HI6 := Lib.hid (hI.ch (Ch.of_cells hc) (Nat.le_refl _))
      have HO6 := Lib.hid (hO.cells hc)
      have HD := Lib.hid hd
      clear hI hO hG hPl hd hc
      simp only [marked]
      gi_wp2_with fail
      refine ⟨by simp, .inl ⟨_, _, rfl, run_takeDeferred HD.out, ?_⟩⟩
      refine ⟨.tuple #[.slice X xw.length xw.length, .bool true, .int .i64 0], ?_, ⟨X, xw.length, by rw [hvb.out, hlk.out, HZ.out]; rfl, by rw [hv.out, hlk.out]; rfl, by rw [hv.out, hlk.out]; exact HO6.out.rd, HI6.out.bel⟩⟩
      simp [results, Try.f30, go_sem, HI6.out.r0.1, HI6.out.r1.1, HI6.out.r2.1]
  · have hzb : (Mc.chkS ⟨i, o, rs⟩ [s, t] == 0) = false := by rw [beq_eq_false_iff_ne]; exact hz
    have hv : Hid (Mc.pthV ⟨i, o, rs⟩ s t = []) := by
      show _ = _
      unfold Mc.pthV
      rw [if_neg hz]
    have hvb : Hid (Mc.pthB ⟨i, o, rs⟩ s t = false) := by
      show _ = _
      unfold Mc.pthB
      rw [if_neg hz]
    obtain ⟨z, hzz⟩ : ∃ z, Mc.chkS ⟨i, o, rs⟩ [s, t] = z := ⟨_, rfl⟩
    rw [hzz] at hz hzb ⊢
    have HZ := Lib.hid hzz
    have hzn : (z != 0) = true := by simpa using hz
    have HI6 := Lib.hid (hP2.put (.slice none 0 0) false z)
    have x1 := (hP2.r1.far (c := h + 1 + 1) (by omega) (o := 0) (.slice none 0 0)).1
    have y1 := (hP2.r1.far (c := h + 1 + 1) (by omega) (o := 0) (.slice none 0 0)).2
    have x2 := ((hP2.r2.far (c := h + 1 + 1) (by omega) (o := 0) (.slice none 0 0)).far (c := h + 1 + 1 + 1) (by omega) (o := 0) (.bool false)).1
    have y2 := ((hP2.r2.far (c := h + 1 + 1) (by omega) (o := 0) (.slice none 0 0)).far (c := h + 1 + 1 + 1) (by omega) (o := 0) (.bool false)).2
    clear hzz hP2 hM2
    gi_wp2_with fail
    refine ⟨.tuple #[.slice none 0 0, .bool false, .int .i64 z], ?_, ⟨none, 0, by rw [hvb.out, HZ.out], by rw [hv.out]; rfl, by rw [hv.out]; exact Rd.nil_, HI6.out.bel⟩⟩
    simp [results, Try.f30, go_sem, HI6.out.r0.1, HI6.out.r1.1, HI6.out.r2.1]
end Go.Proofs.Ythemaombpddbbaa

namespace Go.Proofs.Ythemaombpddbbaa
open Go.RowKit
open Mc (Ed Ma Wv)
attribute [local go_sem] Oper.semAt_some

/-- Block g holds words, each exact and in a block of its own. -/
def WsB (W : World) (g : Nat) (l : List (List Int)) : Prop := ∃ vs : List Value, W.heap[g]? = some (.cells vs.toArray 32 (0, 0)) ∧ vs.length = l.length ∧ ∀ (k : Nat) (x : List Int), l[k]? = some x → ∃ A, vs[k]? = some (.slice A x.length x.length) ∧ OwnB 0 W A x
section
variable {W W' : World} {g : Nat} {l : List (List Int)}
theorem WsB.kp {T : TypeId} (h : WsB W g l) (k : Kp 0 T W W') (h1 : (32 : TypeId) ≠ T) (h2 : (3 : TypeId) ≠ T) : WsB W' g l := by
  obtain ⟨vs, a, b, c⟩ := h
  refine ⟨vs, k g _ _ _ (Nat.zero_le _) a h1, b, fun j x hj => ?_⟩
  obtain ⟨A, d, e⟩ := c j x hj
  exact ⟨A, d, e.kp k h2⟩
theorem WsB.below (h : WsB W g l) (k : Below W.heap.size W W') : WsB W' g l := h.kp (T := 0) (Kp.of_below k) (by decide) (by decide)
theorem WsB.ch {M : Nat} (h : WsB W g l) (k : Ch M W W') (hg : g < M) : WsB W' g l := by
  obtain ⟨vs, a, b, c⟩ := h
  refine ⟨vs, (k.low g hg).trans a, b, fun j x hj => ?_⟩
  obtain ⟨A, d, e⟩ := c j x hj
  refine ⟨A, d, fun hp => ?_⟩
  obtain ⟨q, h1, h2, h3⟩ := e hp
  exact ⟨q, h1, h2, h3.ch k⟩
theorem WsB.lt (h : WsB W g l) : g < W.heap.size := by
  obtain ⟨vs, a, _⟩ := h
  exact heap_lt a
theorem WsB.cell (h : WsB W g l) {k : Nat} (hk : k < l.length) : ∃ v, W.cell? ⟨g, k, none⟩ = some v ∧ W.frozen? ⟨g, k, none⟩ = false := by
  obtain ⟨vs, a, b, c⟩ := h
  refine ⟨vs[k]'(by omega), ?_, ?_⟩
  · rw [cell_of_row W g k _ 32 (0, 0) a]
    simp [List.getElem?_eq_getElem (show k < vs.length by omega)]
  · simp [World.frozen?, a]
theorem WsB.at_ (h : WsB W g l) {k : Nat} {x : List Int} (hk : l[k]? = some x) : ∃ A, W.cell? ⟨g, k, none⟩ = some (.slice A x.length x.length) ∧ Rd W A x := by
  obtain ⟨vs, a, b, c⟩ := h
  obtain ⟨A, d, e⟩ := c k x hk
  refine ⟨A, ?_, e.rd⟩
  rw [cell_of_row W g k _ 32 (0, 0) a]
  simpa using d
theorem WsB.set_ (h : WsB W g l) {t : Nat} {A : Option Addr} {x : List Int} (hx : OwnB 0 W A x) (ht : t < l.length) : WsB (W.setCell ⟨g, t, none⟩ (.slice A x.length x.length)) g (l.set t x) := by
  obtain ⟨vs, a, b, c⟩ := h
  have hkp : Kp 0 32 W (W.setCell ⟨g, t, none⟩ (.slice A x.length x.length)) := Kp.set a _
  refine ⟨vs.set t (.slice A x.length x.length), by simp [World.setCell, Array.getElem?_modify, a], by simp [b], fun j y hj => ?_⟩
  by_cases e : t = j
  · subst e
    rw [List.getElem?_set_self ht] at hj
    injection hj with hj
    subst hj
    exact ⟨A, by rw [List.getElem?_set_self (by omega)], hx.kp hkp (by decide)⟩
  · rw [List.getElem?_set_ne e] at hj
    obtain ⟨B, d, f⟩ := c j y hj
    exact ⟨B, by rw [List.getElem?_set_ne e]; exact d, f.kp hkp (by decide)⟩
end
theorem OwnD.b0 {D : Nat → Prop} {W : World} {A : Option Addr} {x : List Int} (h : OwnD D W A x) : OwnB 0 W A x := fun hp => by
  obtain ⟨g, h1, _, h3⟩ := h hp
  exact ⟨g, h1, Nat.zero_le _, h3⟩
theorem BlkB.ch {M g : Nat} {W W' : World} {cs : List Bool} (h : BlkB W g cs) (k : Ch M W W') (hg : g < M) : BlkB W' g cs := (k.low g hg).trans h

theorem wpListIn_make_words {F : Fence} {m : Nat} (w : World) {ops : Array Oper} {rest : List Oper} {o : Oper} {a : Act} {Q : Exit → Act → World → Prop}
    (hg : o.guard = none) (l c : Operand) (hop : o.op = Op.makeSlice 50 l c) (L : Int) (n : Nat) (hl : a.eval l = .int .i64 L) (hc : a.eval c = .int .i64 L) (hL : L = (n : Int)) (hn : n ≤ 65537)
    (hK : ∀ w', WsB w' w.heap.size (List.replicate n []) → Below w.heap.size w w' → wpListIn F m Try.prog ops Q rest (a.put o.dst (.slice (some ⟨w.heap.size, 0, none⟩) n n)) w') :
    wpListIn F m Try.prog ops Q (o :: rest) a w := by
  subst hL
  refine wpListIn_plain hg fun K hK' => ?_
  have hrun := run_make_row' (P := Try.prog) 50 32 (.slice none 0 0) 24 Try.underlying50 words_info rfl .i64 .i64 n (by omega) (by omega) w
  unfold Oper.wpIn
  refine ⟨?_, ?_⟩
  · simp [Oper.about, hop]
  · rw [Oper.semAt_plain F _ _ (by rw [hop]; intro c hc'; cases hc')]
    simp [execOp, hop, hl, hc, hrun, Result.andThen]
    refine hK' _ _ (hK _ ?_ ((Below.refl _ _).alloc (Nat.le_refl _) _))
    refine ⟨List.replicate n (.slice none 0 0), ?_, by simp, fun k x hk => ?_⟩
    · rw [heap_alloc_new]
      have e := toList_madeCells_one (.slice none 0 0) n
      have e2 : madeCells #[.slice none 0 0] n = (List.replicate n (Value.slice none 0 0)).toArray := by
        rw [← Array.toList_inj, e]
      rw [e2]
    · rw [List.getElem?_replicate] at hk
      split at hk
      · rename_i hkn
        injection hk with hk
        subst hk
        exact ⟨none, by rw [List.getElem?_replicate, if_pos hkn]; rfl, fun hp => absurd hp (by simp)⟩
      · cases hk
theorem wpListIn_make_bools {F : Fence} {m : Nat} (w : World) {ops : Array Oper} {rest : List Oper} {o : Oper} {a : Act} {Q : Exit → Act → World → Prop}
    (hg : o.guard = none) (l c : Operand) (hop : o.op = Op.makeSlice 51 l c) (L : Int) (n : Nat) (hl : a.eval l = .int .i64 L) (hc : a.eval c = .int .i64 L) (hL : L = (n : Int)) (hn : n ≤ 65537)
    (hK : ∀ w', BlkB w' w.heap.size (List.replicate n false) → Below w.heap.size w w' → wpListIn F m Try.prog ops Q rest (a.put o.dst (.slice (some ⟨w.heap.size, 0, none⟩) n n)) w') :
    wpListIn F m Try.prog ops Q (o :: rest) a w := by
  subst hL
  refine wpListIn_plain hg fun K hK' => ?_
  have hrun := run_make_row' (P := Try.prog) 51 4 (.bool false) 1 Try.underlying51 bool_info rfl .i64 .i64 n (by omega) (by omega) w
  unfold Oper.wpIn
  refine ⟨?_, ?_⟩
  · simp [Oper.about, hop]
  · rw [Oper.semAt_plain F _ _ (by rw [hop]; intro c hc'; cases hc')]
    simp [execOp, hop, hl, hc, hrun, Result.andThen]
    refine hK' _ _ (hK _ ?_ ((Below.refl _ _).alloc (Nat.le_refl _) _))
    show _ = _
    rw [heap_alloc_new]
    have e := toList_madeCells_one (.bool false) n
    have e2 : madeCells #[.bool false] n = ((List.replicate n false).map Value.bool).toArray := by
      rw [← Array.toList_inj, e]
      simp
    rw [e2]

namespace Mc
def accV (m : Ma) : List (List Int) := if chk m = 0 then tab oW (wk m 0) m.r.length else []
def accB (m : Ma) : List Bool := if chk m = 0 then tab oB (wk m 0) m.r.length else []
end Mc
/-- The memory of Access: the words, what is reached, their boxes. -/
structure Ac (w : World) (gP bP gR bR n : Nat) (l : List (List Int)) (r : List Bool) (W : World) : Prop where
  bel : Below w.heap.size w W
  xP : Box W bP (.slice (some ⟨gP, 0, none⟩) n n)
  xR : Box W bR (.slice (some ⟨gR, 0, none⟩) n n)
  ws : WsB W gP l
  rs : BlkB W gR r
  o1 : w.heap.size ≤ gP
  o2 : gP < bP
  o3 : bP < gR
  o4 : gR < bR
section
variable {w W W' : World} {gP bP gR bR n : Nat} {l : List (List Int)} {r : List Bool}
theorem Ac.ch {M : Nat} (x : Ac w gP bP gR bR n l r W) (k : Ch M W W') (h1 : bR < M) : Ac w gP bP gR bR n l r W' := by
  have h2 := x.o1; have h3 := x.o2; have h4 := x.o3; have h5 := x.o4
  exact ⟨k.below (by omega) x.bel, x.xP.ch k (by omega), x.xR.ch k h1, x.ws.ch k (by omega), x.rs.ch k (by omega), h2, h3, h4, h5⟩
theorem Ac.put (x : Ac w gP bP gR bR n l r W) {t : Nat} {A : Option Addr} {v : List Int} (hA : OwnB 0 W A v) (ht : t < l.length) : Ac w gP bP gR bR n (l.set t v) (r.set t true) ((W.setCell ⟨gP, t, none⟩ (.slice A v.length v.length)).setCell ⟨gR, t, none⟩ (.bool true)) := by
  have h2 := x.o1; have h3 := x.o2; have h4 := x.o3; have h5 := x.o4
  have hr1 : BlkB (W.setCell ⟨gP, t, none⟩ (.slice A v.length v.length)) gR r := (Below.heap_setCell W ⟨gP, t, none⟩ _ gR (by show gR ≠ gP; omega)).trans x.rs
  refine ⟨(x.bel.setCell (p := ⟨gP, t, none⟩) h2 _).setCell (p := ⟨gR, t, none⟩) (by show w.heap.size ≤ gR; omega) _, (x.xP.far (by omega) _).far (by omega) _, (x.xR.far (by omega) _).far (by omega) _, ?_, hr1.set_ t true, h2, h3, h4, h5⟩
  exact (x.ws.set_ hA ht).kp (T := 4) (Kp.set hr1 _) (by decide) (by decide)
end
/-- What Access hands back. -/
def AccP (w : World) (m : Ma) (e : Ending) (w' : World) : Prop := ∃ B C k, e = .returned (.tuple #[.slice B k k, .slice C k k, .int .i64 (Mc.chk m)]) ∧ Hid ((Mc.accV m).length = k) ∧ Hid ((Mc.accB m).length = k) ∧
  (k ≠ 0 → ∃ g1 g2, B = some ⟨g1, 0, none⟩ ∧ C = some ⟨g2, 0, none⟩ ∧ WsB w' g1 (Mc.accV m) ∧ BlkB w' g2 (Mc.accB m)) ∧ Below w.heap.size w w'

set_option maxRecDepth 100000 in
set_option maxHeartbeats 4000000 in
theorem wacc_any (i o : Int) (rs : List (List Ed)) (A : Option Addr) (n c : Nat) (w : World) (hr : RdR w A rs) (hn : rs.length = n) (hnb : n ≤ 1000000) (hrl : ∀ row ∈ rs, row.length ≤ 1000000) :
    Calls Try.prog 31 #[.agg #[.int .i64 i, .int .i64 o, .slice A n c]] w (AccP w ⟨i, o, rs⟩) := by
  have RL := Lib.hid hrl
  have HN := Lib.hid hn
  obtain ⟨mm, _⟩ : ∃ mm : Nat, True := ⟨3, trivial⟩
  have hM0 := BxM.new w i o A n c
  have hb0 : Below w.heap.size w (boxM w i o A n c) := (Below.refl _ _).alloc (Nat.le_refl _) _
  have hr1 := hr.below hb0
  clear hrl
  refine (callsIn_wide (n := mm)).1 ?_
  refine callsIn_of_wp_marks Try.func31 rfl trivial ?_
  simp only [Try.ntmps31, List.size_toArray, List.length_cons, List.length_nil, Nat.reduceAdd, Nat.reduceSub, Array.replicate_succ, Array.replicate_zero, List.push_toArray, List.append_toArray, List.nil_append, List.cons_append]
  gi_wp2_with fail
  refine wide_calls (wcheck_any i o rs A n c none 0 0 [] _ hr1 hn hnb RL.out Rd.nil_ rfl (by omega)) ?_
  rintro e w2 ⟨rfl, hb2⟩
  rw [Mc.chkS_nil]
  have hB2 := below_next hb0 hb2
  have hM2 := hM0.mvB hb2
  have hz2 : w.heap.size < w2.heap.size := heap_lt hM2
  obtain ⟨q0, q1, q2⟩ := hM2.cells
  clear hb0 hM0 hr1 hb2
  by_cases hz : Mc.chk ⟨i, o, rs⟩ = 0
  · have hv : Hid (Mc.accV ⟨i, o, rs⟩ = Mc.tab Mc.oW (Mc.wk ⟨i, o, rs⟩ 0) n) := by
      show _ = _
      unfold Mc.accV
      rw [if_pos hz, hn]
    have hvb : Hid (Mc.accB ⟨i, o, rs⟩ = Mc.tab Mc.oB (Mc.wk ⟨i, o, rs⟩ 0) n) := by
      show _ = _
      unfold Mc.accB
      rw [if_pos hz, hn]
    have V := Mc.val_of hz
    have HV := Lib.hid V
    have hr64 : n ≤ 64 := by have := V.r1; simp only [hn] at this; exact this
    have hr0 : 1 ≤ n := by have := V.r0; simp only [hn] at this; exact this
    have HZ := Lib.hid hz
    rw [hz]
    clear V hz
    gi_wp2_with (gi_at_make; go_loud (refine wpListIn_make_words _ rfl _ _ rfl _ n rfl rfl rfl (by omega) ?_))
    intro w3 hW3 hb3
    obtain ⟨gP, hgP⟩ : ∃ gP, w2.heap.size = gP := ⟨_, rfl⟩
    rw [hgP] at hW3 hz2 ⊢
    have hM3 := hM2.mvB hb3
    have hz3 := hW3.lt
    have hB3 := below_next hB2 hb3
    clear q0 q1 q2 hM2 hB2 hb3
    have q0 : ∀ ob, (w3.alloc ob).cell? ⟨w.heap.size, 0, none⟩ = some (.int .i64 i) := fun ob => (hM3.mvB ((Below.refl _ _).alloc (Nat.le_refl _) ob)).cells.1
    have q1 : ∀ ob, (w3.alloc ob).cell? ⟨w.heap.size, 1, none⟩ = some (.int .i64 o) := fun ob => (hM3.mvB ((Below.refl _ _).alloc (Nat.le_refl _) ob)).cells.2.1
    have q2 : ∀ ob, (w3.alloc ob).cell? ⟨w.heap.size, 2, none⟩ = some (.slice A n c) := fun ob => (hM3.mvB ((Below.refl _ _).alloc (Nat.le_refl _) ob)).cells.2.2
    have hbA : Below w3.heap.size w3 (w3.alloc (.cells #[.slice (some ⟨gP, 0, none⟩) n n] 50)) := (Below.refl _ _).alloc (Nat.le_refl _) _
    have hX4 := Box.new w3 (.slice (some ⟨gP, 0, none⟩) n n) 50
    gi_wp2_with (gi_at_make; go_loud (refine wpListIn_make_bools _ rfl _ _ rfl _ n rfl rfl rfl (by omega) ?_))
    intro w5 hR5 hb5
    obtain ⟨bP, hbP⟩ : ∃ bP, w3.heap.size = bP := ⟨_, rfl⟩
    rw [← World.size_alloc w3 (.cells #[.slice (some ⟨gP, 0, none⟩) n n] 50)] at hb5
    have hM5 := (hM3.mvB hbA).mvB hb5
    have hW5 := (hW3.below hbA).below hb5
    have hX5 := hX4.below hb5
    have hB5 := below_next (below_next hB3 hbA) hb5
    have hz5 := hR5.lt
    rw [hbP] at hR5 hz5
    rw [hbP] at hX5 hz3
    try rw [hbP]
    clear q0 q1 q2 hM3 hX4 hB3 hbA hb5 hW3
    have q0 : ∀ ob, (w5.alloc ob).cell? ⟨w.heap.size, 0, none⟩ = some (.int .i64 i) := fun ob => (hM5.mvB ((Below.refl _ _).alloc (Nat.le_refl _) ob)).cells.1
    have q1 : ∀ ob, (w5.alloc ob).cell? ⟨w.heap.size, 1, none⟩ = some (.int .i64 o) := fun ob => (hM5.mvB ((Below.refl _ _).alloc (Nat.le_refl _) ob)).cells.2.1
    have q2 : ∀ ob, (w5.alloc ob).cell? ⟨w.heap.size, 2, none⟩ = some (.slice A n c) := fun ob => (hM5.mvB ((Below.refl _ _).alloc (Nat.le_refl _) ob)).cells.2.2
    gi_wp2_with fail
    refine wide_calls (walk_any _ _ _ _ _ _ _) ?_
    rintro e w6 ⟨rfl, rfl⟩
    gi_wp2_with fail
    obtain ⟨bR, hbR⟩ : ∃ bR, w5.heap.size = bR := ⟨_, rfl⟩
    obtain ⟨Wl, hWl⟩ : ∃ Wl, (boxM (w5.alloc (.cells #[.slice (some ⟨bP + 1, 0, none⟩) n n] 51)) i o A n c).alloc (.cells #[.int .i64 0] 3) = Wl := ⟨_, rfl⟩
    rw [hbR, hWl]
    rw [hbR] at hz5
    have hbB : Below w5.heap.size w5 Wl := by rw [← hWl]; exact (((Below.refl _ _).alloc (Nat.le_refl _) _).alloc (by simp) _).alloc (by simp; omega) _
    have hbw : Below w.heap.size w Wl := below_next hB5 hbB
    have hzl : Wl.heap.size = bR + 3 := by rw [← hWl, ← hbR]; simp
    have hbx : BxM Wl (bR + 1) i o A rs.length c := by
      rw [← hWl, ← hbR, hn]
      exact (BxM.newE (by simp) i o A n c).mvB ((Below.refl _ _).alloc (Nat.le_refl _) _)
    have hst : Wl.cell? ⟨bR + 1 + 1, 0, none⟩ = some (.int .i64 ((0 : Nat) : Int)) := by
      rw [← hWl, ← hbR]
      exact (Box.new_ (by simp) (.int .i64 0) 3).1
    have hAc : Ac w gP bP (bP + 1) bR n (Mc.tab Mc.oW ((Mc.wk ⟨i, o, rs⟩ 0).take 0) n) (Mc.tab Mc.oB ((Mc.wk ⟨i, o, rs⟩ 0).take 0) n) Wl := by
      refine ⟨hbw, hX5.below hbB, ?_, ?_, ?_, by omega, by omega, by omega, by omega⟩
      · rw [← hWl, ← hbR]
        exact ((Box.new w5 (.slice (some ⟨bP + 1, 0, none⟩) n n) 51).alloc _).alloc _
      · rw [List.take_zero, Mc.tab_nil]
        exact hW5.below hbB
      · rw [List.take_zero, Mc.tab_nil]
        exact hR5.below hbB (by omega)
    have hG : GivesW (mm - 1) 90 #[.pointer (some ⟨bR + 1 + 1, 0, none⟩), .pointer (some ⟨bR + 1, 0, none⟩)] (Mc.wk ⟨i, o, rs⟩ 0) (fun b => b = gP ∨ b = bP + 1) Wl :=
      walk1_gives (mm - 1) ⟨i, o, rs⟩ HV.out (bR + 1) (bR + 1 + 1) A c 0 (fun b => b = gP ∨ b = bP + 1) w Wl hr hbw hbx hst (by simp only [hn]; omega) (fun h => by omega) (fun b h => by omega) (fun b h => by omega)
    have hBF := Lib.hid (Mc.wk_bf HV.out (s := 0) (by simp only [hn]; omega))
    clear q0 q1 q2 hM5 hW5 hR5 hX5 hB5 hbB hbx hst hWl
    refine range_words (m := mm) 90 _ rfl (enters_of Try.func90 (by kernel_rfl) rfl) (Mc.wk ⟨i, o, rs⟩ 0) (fun b => b = gP ∨ b = bP + 1) (fun b h => by omega) rfl hG
      (fun k W => Ac w gP bP (bP + 1) bR n (Mc.tab Mc.oW ((Mc.wk ⟨i, o, rs⟩ 0).take k) n) (Mc.tab Mc.oB ((Mc.wk ⟨i, o, rs⟩ 0).take k) n) W) (fun _ _ => False) (fun k A B h c => h.ch c (by omega)) (fun c' A B h _ => h.elim) hAc ?round ?done ?stop
    case round =>
      intro l k x X W hk hW hI hO
      obtain ⟨xs, xw⟩ := x
      have hx := (hBF.out.lw _ (List.mem_of_getElem? hk)).1
      simp only [hn] at hx
      obtain ⟨t, rfl⟩ := Int.eq_ofNat_of_zero_le hx.1
      have htn : t < n := by omega
      have hlt0 := Mc.look_take HV.out hBF.out hk
      have HT := Lib.hid (Mc.tab_snoc (f := Mc.oW) (n := n) (w := xw) hlt0)
      have HU := Lib.hid (Mc.tab_snoc (f := Mc.oB) (n := n) (w := xw) hlt0)
      rw [← Mc.take_snocW hk] at HT HU
      obtain ⟨cs, hcs⟩ : ∃ cs, Mc.tab Mc.oW ((Mc.wk ⟨i, o, rs⟩ 0).take k) n = cs := ⟨_, rfl⟩
      obtain ⟨ds, hds⟩ : ∃ ds, Mc.tab Mc.oB ((Mc.wk ⟨i, o, rs⟩ 0).take k) n = ds := ⟨_, rfl⟩
      have hcl : Hid (cs.length = n) := by show _ = _; rw [← hcs]; exact Mc.tab_len
      have hdl : Hid (ds.length = n) := by show _ = _; rw [← hds]; exact Mc.tab_len
      rw [hcs] at HT
      rw [hds] at HU
      rw [hcs, hds] at hI
      obtain ⟨len, hlen⟩ : ∃ len, xw.length = len := ⟨_, rfl⟩
      simp only [wvv]
      clear hk hG hAc hcs hds hx hlt0
      rw [hlen]
      gi_wp2_with fail
      refine ⟨Below.refl _ _, fun W2 hc2 => ?_⟩
      have hI2 := hI.ch (Ch.of_cells hc2) (by omega)
      have hO2 := hO.cells hc2
      have hzW := hc2.size
      clear hI hc2 hO
      have b0 := hI2.xP.1
      have b1 := hI2.xR.1
      have b2 := (hI2.xR.far (c := gP) (o := t) (by have := hI2.o2; have := hI2.o3; have := hI2.o4; omega) (.slice X len len)).1
      obtain ⟨v0, c0, c1⟩ := hI2.ws.cell (k := t) (by rw [hcl.out]; exact htn)
      obtain ⟨v1, d0, d1, _⟩ := BlkB.at_ (show BlkB (W2.setCell ⟨gP, t, none⟩ (.slice X len len)) (bP + 1) ds from (Below.heap_setCell W2 ⟨gP, t, none⟩ _ _ (by have := hI2.o2; show bP + 1 ≠ gP; omega)).trans hI2.rs) (k := t) (by rw [hdl.out]; exact htn)
      have hI5 := hI2.put hO2.b0 (t := t) (by rw [hcl.out]; exact htn)
      rw [hlen] at hI5
      have R : roundP (fun b => b = gP ∨ b = bP + 1) (fun k W => Ac w gP bP (bP + 1) bR n (Mc.tab Mc.oW ((Mc.wk ⟨i, o, rs⟩ 0).take k) n) (Mc.tab Mc.oB ((Mc.wk ⟨i, o, rs⟩ 0).take k) n) W) (fun _ _ => False) k W2 .normal ⟨#[], []⟩ ((W2.setCell ⟨gP, t, none⟩ (.slice X len len)).setCell ⟨bP + 1, t, none⟩ (.bool true)).drew := by
        refine ⟨?_, ((KA.set (D := fun b => b = gP ∨ b = bP + 1) _ (.inl rfl) _).trans (KA.set (D := fun b => b = gP ∨ b = bP + 1) _ (.inr rfl) _)).trans (KA.of_below (Below.refl _ _).drew)⟩
        show Ac _ _ _ _ _ _ _ _ _
        rw [HT.out, HU.out]
        exact ⟨hI5.bel.drew, hI5.xP, hI5.xR, hI5.ws, hI5.rs, hI5.o1, hI5.o2, hI5.o3, hI5.o4⟩
      have RH := Lib.hid R
      clear R hI5 hI2 hO2 hlen
      gi_wp2_with fail
      exact acc_region b0 b1 b2 c0 c1 d0 d1 htn RH.out
    case done =>
      intro N W hN hI hd
      rw [List.take_length] at hI
      have b0 := hI.xP.1
      have b1 := hI.xR.1
      have hws := Lib.hid hI.ws
      have hrs := Lib.hid hI.rs
      have hbel := Lib.hid hI.bel
      have hfin : Hid (∀ W', Cells w.heap.size W W' → AccP w ⟨i, o, rs⟩ (.returned (.tuple #[.slice (some ⟨gP, 0, none⟩) n n, .slice (some ⟨bP + 1, 0, none⟩) n n, .int .i64 0])) W') := fun W' hc => by
        refine ⟨_, _, n, by rw [HZ.out], by rw [hv.out]; exact Mc.tab_len, by rw [hvb.out]; exact Mc.tab_len, fun _ => ⟨gP, bP + 1, rfl, rfl, ?_, ?_⟩, hc.below (Nat.le_refl _) hbel.out⟩
        · rw [hv.out]
          exact hws.out.kp (T := 0) (fun b cs t fr _ hb _ => hc.same b _ hb rfl) (by decide) (by decide)
        · rw [hvb.out]
          exact hc.same _ _ hrs.out rfl
      clear hI hAc hG
      simp only [marked]
      gi_wp2_with fail
      gi_region
      all_goals
        gi_wp2_with fail
        have hd2 : (World.drew W).heap[N]? = some (.deferred (some [])) := hd
        refine ⟨by simp, .inl ⟨_, _, rfl, run_takeDeferred hd2, ?_⟩⟩
        refine ⟨.tuple #[.slice (some ⟨gP, 0, none⟩) n n, .slice (some ⟨bP + 1, 0, none⟩) n n, .int .i64 0], ?_, hfin.out _ ((Cells.of_below (Below.refl _ _).drew hbel.out.size).trans (Cells.put _ hd2 rfl (by have := hbel.out.size; have := hbw.size; omega)))⟩
        simp [results, Try.f31, go_sem]
    case stop =>
      rintro N c' W hN h hd
      exact h.elim
  · have hzb : (Mc.chk ⟨i, o, rs⟩ == 0) = false := by rw [beq_eq_false_iff_ne]; exact hz
    have hv : Hid (Mc.accV ⟨i, o, rs⟩ = []) := by
      show _ = _
      unfold Mc.accV
      rw [if_neg hz]
    have hvb : Hid (Mc.accB ⟨i, o, rs⟩ = []) := by
      show _ = _
      unfold Mc.accB
      rw [if_neg hz]
    obtain ⟨z, hzz⟩ : ∃ z, Mc.chk ⟨i, o, rs⟩ = z := ⟨_, rfl⟩
    rw [hzz] at hz hzb ⊢
    have HZ := Lib.hid hzz
    have hzn : (z != 0) = true := by simpa using hz
    have hfin : Hid (AccP w ⟨i, o, rs⟩ (.returned (.tuple #[.slice none 0 0, .slice none 0 0, .int .i64 z])) w2) := ⟨none, none, 0, by rw [HZ.out], by rw [hv.out]; rfl, by rw [hvb.out]; rfl, fun h => absurd rfl h, hB2⟩
    clear hzz
    gi_wp2_with fail
    refine ⟨.tuple #[.slice none 0 0, .slice none 0 0, .int .i64 z], ?_, hfin.out⟩
    simp [results, Try.f31, go_sem]
end Go.Proofs.Ythemaombpddbbaa
