/-
  What the operations of a law's examples leave (joins): edges, rows, machines, tests. No statement is proved here.
-/
import Derived.Test.YtgafpmgdpigliaaJb1
import Derived.Test.YtgafpmgdpigliaaMnZ
namespace Go.Proofs.Ytgafpmgdpigliaa
open Go.RowKit
open Mc (Ed Ma Wv nE)

theorem rdp_litJ (w : World) (l : List Ed) (c : Array Value) (hc : c = (eC l).toArray) : RdP (w.alloc (.cells c 27)) (some ⟨w.heap.size, 0, none⟩) l := fun hp => by
  subst hc
  refine ⟨w.heap.size, 0, rfl, by simp, fun k x hk => ?_⟩
  obtain ⟨h1, h2⟩ := eC_at hk
  have hcell : ∀ j v, (eC l)[j]? = some v → (w.alloc (.cells (eC l).toArray 27)).cell? ⟨w.heap.size, 0 + j, none⟩ = some v := fun j v hj => by
    rw [World.cell?_alloc_at _ _ _ _ rfl, Nat.zero_add]
    simpa using hj
  exact ⟨hcell _ _ h1, by have := hcell _ _ h2; rwa [← Nat.add_assoc] at this⟩
theorem rdr_cellsJ (w : World) (rs : List (List Ed)) (cs : Array Value) (h : ∀ (k : Nat) (row : List Ed), rs[k]? = some row → ∃ A : Addr, cs[k]? = some (Value.slice (some A) row.length row.length) ∧ RdP w (some A) row ∧ row.length ≤ maxLen) :
    RdR (w.alloc (.cells cs 29)) (some ⟨w.heap.size, 0, none⟩) rs := fun _ => by
  have hb : Below w.heap.size w (w.alloc (.cells cs 29)) := (Below.refl _ _).alloc (Nat.le_refl _) _
  refine ⟨w.heap.size, 0, rfl, by simp, fun j row hj => ?_⟩
  obtain ⟨A, h1, h2, h3⟩ := h j row hj
  refine ⟨some A, row.length, ?_, by omega, h3, fun e => by simp at e, h2.below hb⟩
  rw [World.cell?_alloc_at _ _ _ _ rfl, Nat.zero_add]
  exact h1
theorem MK.putPJ {E : World → Prop} {w w1 : World} {L : List (World → Prop)} (h : MK E w w1 L) {A : Option Addr} {l : List Ed} (hr : RdP w1 A l) : MK E w w1 ((fun w => RdP w A l) :: L) := h.put (fun _ _ h hb => h.below hb) hr
theorem MK.putXJ {E : World → Prop} {w w1 : World} {L : List (World → Prop)} (h : MK E w w1 L) {p k : Nat} {l : List (List Ed)} (hr : Ex w1 p k l) : MK E w w1 ((fun w => Ex w p k l) :: L) := h.put (fun _ _ h hb => h.below hb) hr
theorem rd_litJ (w : World) (zs : List Int) : Rd (w.alloc (.cells (ints zs).toArray 3)) (some ⟨w.heap.size, 0, none⟩) zs := Rd.of_block (heap_alloc_new w _)
section
variable {W : World} {ds : List (Option Tmp)} {T0 : Tmp → Value} {PH : List KP} {i : Nat} {o : Oper} {t : Tmp}
theorem hop_edge {x y : Int} (h : o.op = .call { callee := .value (.func 31), args := #[.const (.int .i64 x), .const (.int .i64 y)], argTypes := #[3, 3] }) (hd : o.dst = some t) (hK : PH[i]? = some (kv (.agg #[.int .i64 x, .int .i64 y]))) : Hop Try.prog W ds T0 PH i o := fun a w hC hf hdep => by
  obtain ⟨dst, op, type, pos, after, guard⟩ := o
  simp only at h
  subst h
  unfold yieldsM
  simp [go_sem]
  refine (jedge_any x y w).mono ?_
  rintro e w' ⟨rfl, hb⟩
  exact ⟨_, rfl, leaves hd hK rfl, hb⟩
theorem hop_row {x y : Int} {s : Tmp} {j : Nat} (h : o.op = .buildSlice 29 1 #[(0, .tmp s)]) (hn : needK o j = true) (hj : ds[j]? = some (some s)) (hJ : PH[j]? = some (kv (.agg #[.int .i64 x, .int .i64 y]))) (hd : o.dst = some t) (hK : PH[i]? = some (kRow [(x, y)])) : Hop Try.prog W ds T0 PH i o := fun a w hC hf hdep => by
  have h1 : a.tmps.getD s undef = .agg #[.int .i64 x, .int .i64 y] := needK_at hn hdep hJ hj
  obtain ⟨dst, op, type, pos, after, guard⟩ := o
  simp only at h
  subst h
  have h2 : a.tmps[s]?.getD undef = .agg #[.int .i64 x, .int .i64 y] := by simpa using h1
  unfold yieldsM
  simp [execOp, go_sem, h2]
  exact ⟨leaves hd hK ⟨⟨w.heap.size, 0, none⟩, rfl, rdp_litJ w [(x, y)] _ rfl⟩, (Below.refl _ _).alloc (Nat.le_refl _) _⟩
theorem hop_rows1 {l0 : List Ed} {s0 : Tmp} {j0 : Nat} (h : o.op = .buildSlice 22 1 #[(0, .tmp s0)]) (hl : l0.length ≤ 1000) (hn0 : needK o j0 = true) (hj0 : ds[j0]? = some (some s0)) (hJ0 : PH[j0]? = some (kRow l0)) (hd : o.dst = some t) (hK : PH[i]? = some (kRows [l0])) : Hop Try.prog W ds T0 PH i o := fun a w hC hf hdep => by
  obtain ⟨A0, h0, r0⟩ := needK_at hn0 hdep hJ0 hj0
  obtain ⟨dst, op, type, pos, after, guard⟩ := o
  simp only at h
  subst h
  have e0 : a.tmps[s0]?.getD undef = .slice (some A0) l0.length l0.length := by simpa using h0
  unfold yieldsM
  simp [execOp, go_sem, e0]
  refine ⟨leaves hd hK ⟨⟨w.heap.size, 0, none⟩, rfl, rdr_cellsJ w [l0] _ (fun k row hk => ?_)⟩, (Below.refl _ _).alloc (Nat.le_refl _) _⟩
  match k, hk with
  | 0, hk => simp at hk; subst hk; exact ⟨A0, rfl, r0, by simp [maxLen]; omega⟩
theorem hop_rows2 {l0 l1 : List Ed} {s0 s1 : Tmp} {j0 j1 : Nat} (h : o.op = .buildSlice 22 2 #[(0, .tmp s0), (1, .tmp s1)]) (hl : l0.length ≤ 1000 ∧ l1.length ≤ 1000) (hn0 : needK o j0 = true) (hj0 : ds[j0]? = some (some s0)) (hJ0 : PH[j0]? = some (kRow l0)) (hn1 : needK o j1 = true) (hj1 : ds[j1]? = some (some s1)) (hJ1 : PH[j1]? = some (kRow l1)) (hd : o.dst = some t) (hK : PH[i]? = some (kRows [l0, l1])) : Hop Try.prog W ds T0 PH i o := fun a w hC hf hdep => by
  obtain ⟨A0, h0, r0⟩ := needK_at hn0 hdep hJ0 hj0
  obtain ⟨A1, h1, r1⟩ := needK_at hn1 hdep hJ1 hj1
  obtain ⟨dst, op, type, pos, after, guard⟩ := o
  simp only at h
  subst h
  have e0 : a.tmps[s0]?.getD undef = .slice (some A0) l0.length l0.length := by simpa using h0
  have e1 : a.tmps[s1]?.getD undef = .slice (some A1) l1.length l1.length := by simpa using h1
  unfold yieldsM
  simp [execOp, go_sem, e0, e1]
  refine ⟨leaves hd hK ⟨⟨w.heap.size, 0, none⟩, rfl, rdr_cellsJ w [l0, l1] _ (fun k row hk => ?_)⟩, (Below.refl _ _).alloc (Nat.le_refl _) _⟩
  match k, hk with
  | 0, hk => simp at hk; subst hk; exact ⟨A0, rfl, r0, by simp [maxLen]; omega⟩
  | 1, hk => simp at hk; subst hk; exact ⟨A1, rfl, r1, by simp [maxLen]; omega⟩
theorem hop_rows3 {l0 l1 l2 : List Ed} {s0 s1 s2 : Tmp} {j0 j1 j2 : Nat} (h : o.op = .buildSlice 22 3 #[(0, .tmp s0), (1, .tmp s1), (2, .tmp s2)]) (hl : l0.length ≤ 1000 ∧ l1.length ≤ 1000 ∧ l2.length ≤ 1000) (hn0 : needK o j0 = true) (hj0 : ds[j0]? = some (some s0)) (hJ0 : PH[j0]? = some (kRow l0)) (hn1 : needK o j1 = true) (hj1 : ds[j1]? = some (some s1)) (hJ1 : PH[j1]? = some (kRow l1)) (hn2 : needK o j2 = true) (hj2 : ds[j2]? = some (some s2)) (hJ2 : PH[j2]? = some (kRow l2)) (hd : o.dst = some t) (hK : PH[i]? = some (kRows [l0, l1, l2])) : Hop Try.prog W ds T0 PH i o := fun a w hC hf hdep => by
  obtain ⟨A0, h0, r0⟩ := needK_at hn0 hdep hJ0 hj0
  obtain ⟨A1, h1, r1⟩ := needK_at hn1 hdep hJ1 hj1
  obtain ⟨A2, h2, r2⟩ := needK_at hn2 hdep hJ2 hj2
  obtain ⟨dst, op, type, pos, after, guard⟩ := o
  simp only at h
  subst h
  have e0 : a.tmps[s0]?.getD undef = .slice (some A0) l0.length l0.length := by simpa using h0
  have e1 : a.tmps[s1]?.getD undef = .slice (some A1) l1.length l1.length := by simpa using h1
  have e2 : a.tmps[s2]?.getD undef = .slice (some A2) l2.length l2.length := by simpa using h2
  unfold yieldsM
  simp [execOp, go_sem, e0, e1, e2]
  refine ⟨leaves hd hK ⟨⟨w.heap.size, 0, none⟩, rfl, rdr_cellsJ w [l0, l1, l2] _ (fun k row hk => ?_)⟩, (Below.refl _ _).alloc (Nat.le_refl _) _⟩
  match k, hk with
  | 0, hk => simp at hk; subst hk; exact ⟨A0, rfl, r0, by simp [maxLen]; omega⟩
  | 1, hk => simp at hk; subst hk; exact ⟨A1, rfl, r1, by simp [maxLen]; omega⟩
  | 2, hk => simp at hk; subst hk; exact ⟨A2, rfl, r2, by simp [maxLen]; omega⟩
theorem hop_build {x y : Int} {rs : List (List Ed)} {s : Tmp} {j : Nat} (h : o.op = .build 24 #[(0, .const (.int .i64 x)), (1, .const (.int .i64 y)), (2, .tmp s)]) (hn : needK o j = true) (hj : ds[j]? = some (some s)) (hJ : PH[j]? = some (kRows rs)) (hd : o.dst = some t) (hK : PH[i]? = some (kMach x y rs)) : Hop Try.prog W ds T0 PH i o := fun a w hC hf hdep => by
  obtain ⟨A0, h0, r0⟩ := needK_at hn hdep hJ hj
  obtain ⟨dst, op, type, pos, after, guard⟩ := o
  simp only at h
  subst h
  have e0 : a.tmps[s]?.getD undef = .slice (some A0) rs.length rs.length := by simpa using h0
  unfold yieldsM
  simp [execOp, go_sem, e0]
  exact ⟨leaves hd hK ⟨A0, rfl, r0⟩, Below.refl _ _⟩
theorem hop_machine {x y : Int} {rs : List (List Ed)} {p : Nat} {s s1 s2 : Tmp} {j j1 j2 : Nat} (h : o.op = .call { callee := .value (.func 25), args := #[.tmp s, .tmp s1, .tmp s2], argTypes := #[24, 31, 24] }) (hX : Ex W p rs.length rs) (hn : needK o j = true) (hj : ds[j]? = some (some s)) (hJ : PH[j]? = some (kv (.agg #[.int .i64 x, .int .i64 y, .slice (some ⟨p, 0, none⟩) rs.length rs.length]))) (hn1 : needK o j1 = true) (hj1 : ds[j1]? = some (some s1)) (hJ1 : PH[j1]? = some (kv (.int .i64 0))) (hn2 : needK o j2 = true) (hj2 : ds[j2]? = some (some s2)) (hJ2 : PH[j2]? = some (kMach x y rs)) (hd : o.dst = some t) (hK : PH[i]? = some (kv (.bool true))) : Hop Try.prog W ds T0 PH i o := fun a w hC hf hdep => by
  have h0 : a.tmps.getD s undef = _ := needK_at hn hdep hJ hj
  have h1 : a.tmps.getD s1 undef = _ := needK_at hn1 hdep hJ1 hj1
  obtain ⟨A2, h2, r2⟩ := needK_at hn2 hdep hJ2 hj2
  obtain ⟨dst, op, type, pos, after, guard⟩ := o
  simp only at h
  subst h
  have e0 : a.tmps[s]?.getD undef = .agg #[.int .i64 x, .int .i64 y, .slice (some ⟨p, 0, none⟩) rs.length rs.length] := by simpa using h0
  have e1 : a.tmps[s1]?.getD undef = .int .i64 0 := by simpa using h1
  have e2 : a.tmps[s2]?.getD undef = .agg #[.int .i64 x, .int .i64 y, .slice (some A2) rs.length rs.length] := by simpa using h2
  unfold yieldsM
  simp [go_sem, e0, e1, e2]
  refine (jmachine_yes x y rs p rs.length rs.length (some A2) w (hX.below hC) r2).mono ?_
  rintro e w' ⟨rfl, hb⟩
  exact ⟨_, rfl, leaves hd hK rfl, hb⟩
theorem hop_nothing {x : Int} {s s1 : Tmp} {j j1 : Nat} (h : o.op = .call { callee := .value (.func 22), args := #[.tmp s, .tmp s1, .const (.int .i64 x)], argTypes := #[24, 31, 31] }) (hn : needK o j = true) (hj : ds[j]? = some (some s)) (hJ : PH[j]? = some (kv (.agg #[.int .i64 0, .int .i64 0, .slice none 0 0]))) (hn1 : needK o j1 = true) (hj1 : ds[j1]? = some (some s1)) (hJ1 : PH[j1]? = some (kv (.int .i64 x))) (hd : o.dst = some t) (hK : PH[i]? = some (kv (.bool true))) : Hop Try.prog W ds T0 PH i o := fun a w hC hf hdep => by
  have h0 : a.tmps.getD s undef = _ := needK_at hn hdep hJ hj
  have h1 : a.tmps.getD s1 undef = _ := needK_at hn1 hdep hJ1 hj1
  obtain ⟨dst, op, type, pos, after, guard⟩ := o
  simp only at h
  subst h
  have e0 : a.tmps[s]?.getD undef = .agg #[.int .i64 0, .int .i64 0, .slice none 0 0] := by simpa using h0
  have e1 : a.tmps[s1]?.getD undef = .int .i64 x := by simpa using h1
  unfold yieldsM
  simp [go_sem, e0, e1]
  refine (nothing_yes x w).mono ?_
  rintro e w' ⟨rfl, hb⟩
  exact ⟨_, rfl, leaves hd hK rfl, hb⟩
end
end Go.Proofs.Ytgafpmgdpigliaa
