/-
  A region of Relate in a round, which draws its order: a pair is put to the list. No statement is proved here.
-/
import Derived.Test.YtiamkkgnjobljaaEa5
import Derived.BigRegionIn
import Derived.Deep.AppendLies
namespace Go.Proofs.Ytiamkkgnjobljaa
open Go.RowKit
open Mc (Ed Ma Wv)
attribute [local go_sem] Oper.semAt_some

theorem stepIn_append {P : Program} {w : World} {l nn : Nat} {ops : Array Oper} {o : Oper} {a : Act} {K : Act → World → Prop} {Q : Exit → Act → World → Prop} {E : Prop} (hgd : o.guard = none) (s x : Operand) (t : TypeId)
    (ho : o.op = .call { callee := .builtin .append, args := #[s, x], argTypes := #[t, t] })
    (base : Nat) (e : TypeId) (i : TypeInfo) (z : Value) (size bytes : Nat) (ht : P.underlying t = some (.slice e)) (hi : P.info? e = some i) (hz : i.zero = some z)
    (hsize : i.size = size) (hby : i.bytes = bytes) (hzs : z.cells.size = size) (hsz : 0 < size)
    (v : Value) (n : Nat) (xs : List Value) (hs : a.eval s = v) (hown : w.ownsRow base e size v n xs)
    (ad : Addr) (m c : Nat) (news : List Value) (hx : a.eval x = .slice (some ad) m c) (hl : news.length = m * size) (hnews : ∀ j u, news[j]? = some u → w.cell? (ad.add j) = some u) (h1 : ∀ u ∈ news, u.oneCell' = true)
    (hm : 0 < m) (h63 : n + m ≤ maxLen) (hbytes : (n + m) * bytes ≤ 140737488355328) (hbase : base ≤ w.heap.size) (H : Nat) (hH : w.heap.size = H)
    (h : ∀ g cap w', w'.ownsRow base e size (.slice (some ⟨g, 0, none⟩) (n + m) cap) (n + m) (xs ++ news) → w.grownBy w' v.ownBlock → (v.ownBlock = some g ∨ g = H) → g < w'.heap.size → K (a.put o.dst (.slice (some ⟨g, 0, none⟩) (n + m) cap)) w') :
    if Region.wanted o (yielded ops a.tmps) = true then Oper.wpIn (Fence.wide.inRound l) nn P o a w K Q else E := by
  have hw : Region.wanted o (yielded ops a.tmps) = true := by simp [Region.wanted, hgd]
  rw [if_pos hw]
  obtain ⟨g, cap, w', hr, h2, h3, h4, h5⟩ := run_append_lies (P := P) w t o.type base e i z size bytes ht hi hz hsize hby hzs hsz v n xs hown ad m c news hl hnews h1 hm h63 hbytes hbase H hH
  have hrun : (execOp a.eval o).run P w = .ok (.value (.slice (some ⟨g, 0, none⟩) (n + m) cap)) w' := by
    unfold execOp
    simp only [ho, resolve, invoke, builtin, Sem.run_bind, Sem.run_pure, Result.andThen_ok, List.map_toArray, List.map_cons, List.map_nil, hs, hx, hr]
  unfold Oper.wpIn
  refine ⟨fun _ _ => trivial, ?_⟩
  rw [Oper.semAt_plain _ _ _ (fun c hc => by rw [ho] at hc; cases hc), hrun]
  exact h g cap w' h2 h3 h4 h5
def relFind (k : Nat) : Code → Option Code
  | .region id ops d => if id = k then some (.region id ops d) else none
  | .seq a b => match relFind k a with
    | some c => some c
    | none => relFind k b
  | .block _ c => relFind k c
  | .scope c => relFind k c
  | .loop c => relFind k c
  | .cond _ a b => match relFind k a with
    | some c => some c
    | none => relFind k b
  | .rangeFunc _ _ a b => match relFind k a with
    | some c => some c
    | none => relFind k b
  | _ => none
noncomputable def relReg (k : Nat) : Code := ((Try.f53.body.bind (relFind k)).getD .skip)
theorem pairE_info : (Try.prog.info? 95).map (fun i => (i.zero, i.size, i.bytes)) = some (some (.agg #[.int .i64 0, .int .i64 0]), 2, 16) := by kernel_rfl
set_option maxRecDepth 1000000 in
set_option maxHeartbeats 4000000 in
theorem rel_region {l nn : Nat} {Q : Exit → Act → World → Prop} {W2 : World} {b9 X base k : Nat} {s t : Int} {v : Value} {ps : List (Int × Int)} {u0 u1 u2 u3 u4 u5 u6 u7 u8 u11 u12 u13 u14 u15 u16 u17 u18 u19 u20 u21 u22 u23 u24 u25 u26 u27 u28 u29 u30 u31 u32 u33 u34 u35 u36 u37 u38 : Value}
    (c9 : W2.cell? ⟨b9, 0, none⟩ = some v) (f9 : W2.frozen? ⟨b9, 0, none⟩ = false) (x0 : W2.cell? ⟨X, 0, none⟩ = some (.int .i64 s)) (x1 : W2.cell? ⟨X, 1, none⟩ = some (.int .i64 t))
    (hown : W2.ownsRow base 95 2 v k (eC ps)) (hk : k ≤ 1000000) (hbase : base ≤ W2.heap.size) (hb9 : b9 < W2.heap.size) (h9 : ∀ g, v.ownBlock = some g → g ≠ b9)
    (hQ : ∀ g c w1, w1.ownsRow base 95 2 (.slice (some ⟨g, 0, none⟩) (k + 1) c) (k + 1) (eC ps ++ [.int .i64 s, .int .i64 t]) → (W2.alloc (.cells #[.int .i64 s, .int .i64 t] 95)).grownBy w1 v.ownBlock → w1.cell? ⟨b9, 0, none⟩ = some v → w1.frozen? ⟨b9, 0, none⟩ = false → Q .normal ⟨#[u0, u1, u2, u3, u4, u5, u6, u7, u8, .pointer (some ⟨b9, 0, none⟩), .pointer (some ⟨X, 0, none⟩), u11, u12, u13, u14, u15, u16, u17, u18, u19, u20, u21, u22, u23, u24, u25, u26, u27, v, .pointer (some ⟨X, 0, none⟩), .pointer (some ⟨X, 0, none⟩), .pointer (some ⟨X, 0, none⟩), .agg #[.int .i64 s, .int .i64 t], .slice (some ⟨W2.heap.size, 0, none⟩) 1 1, .slice (some ⟨g, 0, none⟩) (k + 1) c, u35, u36, u37, u38], []⟩ (w1.setCell ⟨b9, 0, none⟩ (.slice (some ⟨g, 0, none⟩) (k + 1) c))) :
    (relReg 7).wpIn (Fence.wide.inRound l) nn Try.prog Q ⟨#[u0, u1, u2, u3, u4, u5, u6, u7, u8, .pointer (some ⟨b9, 0, none⟩), .pointer (some ⟨X, 0, none⟩), u11, u12, u13, u14, u15, u16, u17, u18, u19, u20, u21, u22, u23, u24, u25, u26, u27, u28, u29, u30, u31, u32, u33, u34, u35, u36, u37, u38], []⟩ W2 := by
  conv => arg 4; whnf
  have HQ := Lib.hid hQ
  have H9 := Lib.hid h9
  obtain ⟨i0, hi0, hz0, hz1, hz2⟩ := info_parts pairE_info
  have s3 : k + 1 ≤ maxLen := by unfold maxLen; omega
  have s4 : (k + 1) * 16 ≤ 140737488355328 := by omega
  clear hQ h9
  refine wpIn_region_any (by kernel_rfl) ?_
  try (change wpAnyIn _ _ _ _ _ _ _ _ _ (World.drew _))
  have hown' : (W2.alloc (.cells #[.int .i64 s, .int .i64 t] 95)).drew.ownsRow base 95 2 v k (eC ps) := hown.alloc _
  have S1 : ∀ (j : Nat) u, ([.int .i64 s, .int .i64 t] : List Value)[j]? = some u → (W2.alloc (.cells #[.int .i64 s, .int .i64 t] 95)).drew.cell? ((⟨W2.heap.size, 0, none⟩ : Addr).add j) = some u := World.news_of_block (heap_alloc_new W2 (.cells #[.int .i64 s, .int .i64 t] 95))
  have S2 := two_cells s t
  have s5 : base ≤ (W2.alloc (.cells #[.int .i64 s, .int .i64 t] 95)).drew.heap.size := by
    show base ≤ (W2.alloc (.cells #[.int .i64 s, .int .i64 t] 95)).heap.size
    rw [World.size_alloc]
    omega
  have k9 : (W2.alloc (.cells #[.int .i64 s, .int .i64 t] 95)).drew.cell? ⟨b9, 0, none⟩ = some v := (World.cell?_alloc_past _ _ _ (by show b9 < _; exact hb9)).trans c9
  have kf : (W2.alloc (.cells #[.int .i64 s, .int .i64 t] 95)).drew.frozen? ⟨b9, 0, none⟩ = false := (World.frozen?_of_block (w := W2) (a := ⟨b9, 0, none⟩) (Below.heap_alloc _ _ _ hb9)).trans f9
  have hlt9 : b9 < (W2.alloc (.cells #[.int .i64 s, .int .i64 t] 95)).drew.heap.size := by
    show b9 < (W2.alloc (.cells #[.int .i64 s, .int .i64 t] 95)).heap.size
    rw [World.size_alloc]
    omega
  have HO := Lib.hid hown'
  have HS1 := Lib.hid S1
  have HS2 := Lib.hid S2
  have HK9 := Lib.hid k9
  have HKF := Lib.hid kf
  clear hown hown' S1 S2 k9 kf
  repeat' first
    | exact AllReadyIn.nil
    | (refine wpAnyIn_ready (rs := [0, 1]) (by decide +kernel) (by simp) ?_)
    | (refine wpAnyIn_ready (rs := [0, 2]) (by decide +kernel) (by simp) ?_)
    | (refine wpAnyIn_ready (rs := [0, 3]) (by decide +kernel) (by simp) ?_)
    | (refine wpAnyIn_ready (rs := [0, 4]) (by decide +kernel) (by simp) ?_)
    | (refine wpAnyIn_ready (rs := [0, 5]) (by decide +kernel) (by simp) ?_)
    | (refine wpAnyIn_ready (rs := [0]) (by decide +kernel) (by simp) ?_)
    | (refine wpAnyIn_ready (rs := [1]) (by decide +kernel) (by simp) ?_)
    | (refine wpAnyIn_ready (rs := [2]) (by decide +kernel) (by simp) ?_)
    | (refine wpAnyIn_ready (rs := [3]) (by decide +kernel) (by simp) ?_)
    | (refine wpAnyIn_ready (rs := [4]) (by decide +kernel) (by simp) ?_)
    | (refine wpAnyIn_ready (rs := [5]) (by decide +kernel) (by simp) ?_)
    | (refine wpAnyIn_ready (rs := [6]) (by decide +kernel) (by simp) ?_)
    | (refine wpAnyIn_ready (rs := [7]) (by decide +kernel) (by simp) ?_)
    | (refine wpAnyIn_done (by decide +kernel) ?_ _)
    | (refine AllReadyIn.cons rfl (fun K hK => ?_) ?_)
    | (refine stepIn_append rfl (.tmp 28) (.tmp 33) 55 rfl base 95 i0 (.agg #[.int .i64 0, .int .i64 0]) 2 16 Try.underlying55 hi0 hz0 hz1 hz2 rfl (by decide) v k (eC ps) (by simp [Act.eval]) HO.out ⟨W2.heap.size, 0, none⟩ 1 1 [.int .i64 s, .int .i64 t] (by simp [Act.eval]) rfl HS1.out HS2.out (by decide) s3 s4 s5 _ rfl ?_
       intro g c w1 hown1 hg1 hat1 hlt1
       have q9 : w1.cell? ⟨b9, 0, none⟩ = some v := (hg1.cell_far ⟨b9, 0, none⟩ hlt9 (fun e => H9.out b9 e.symm rfl)).trans HK9.out
       have qf : w1.frozen? ⟨b9, 0, none⟩ = false := (hg1.frozen_far ⟨b9, 0, none⟩ hlt9 (fun e => H9.out b9 e.symm rfl)).trans HKF.out
       refine hK _ _ ?_
       clear hK K)
    | (go_simp
       refine hK _ _ ?_
       clear hK K)
  all_goals exact HQ.out g c w1 hown1 ⟨hg1.os, hg1.tape, hg1.output, hg1.size, hg1.block⟩ q9 qf
end Go.Proofs.Ytiamkkgnjobljaa
