/-
  Several texts in one: SWk1, SWk2, SWk3, SWkA, SWk4. No statement is proved here.
-/
import Derived.Test.YtgafpmgdpigliaaScA
import Derived.Test.YtgafpmgdpigliaaBaZ
import Derived.Deep.CutRange
import Derived.Test.YtgafpmgdpigliaaScB
import Derived.Test.YtgafpmgdpigliaaSMc9
import Derived.Test.YtgafpmgdpigliaaWkZ
import Derived.Deep.LoopGhost
import Derived.BigQuiet
import Derived.StillTailTactics
namespace Go.Proofs.Ytgafpmgdpigliaa
open Go.RowKit

/-- Nothing is appended. -/
theorem run_append_none {P : Program} (w : World) (t ty e : TypeId) (i : TypeInfo) (hi : P.info? e = some i) (ht : P.underlying t = some (.slice e)) (b0 : Addr) (p : Option Addr) (c : Nat) :
    (Builtin.append_ #[t, t] ty #[.slice (some b0) 0 0, .slice p 0 c]).run P w = .ok (.slice (some b0) 0 0) w := by
  cases p <;> simp [Builtin.append_, run_underlying ht, sizeOf, typeInfo, hi, Builtin.lenOf, Builtin.firstCells, loadCells, loadCellsFrom, storeCells]
theorem wpList_append_none {P : Program} (w : World) {ops : Array Oper} {rest : List Oper} {o : Oper} {a : Act} {Q : Exit → Act → World → Prop} (hgd : o.guard = none) (s x : Operand) (t : TypeId)
    (ho : o.op = .call { callee := .builtin .append, args := #[s, x], argTypes := #[t, t] }) (e : TypeId) (i : TypeInfo) (hi : P.info? e = some i) (ht : P.underlying t = some (.slice e)) (b0 : Addr) (p : Option Addr) (c : Nat)
    (hs : a.eval s = .slice (some b0) 0 0) (hx : a.eval x = .slice p 0 c) (h : wpList P ops Q rest (a.put o.dst (.slice (some b0) 0 0)) w) : wpList P ops Q (o :: rest) a w := by
  refine wpList_plain hgd fun K hK => ?_
  have hrun := run_append_none (P := P) w t o.type e i hi ht b0 p c
  unfold Oper.wp
  simp [execOp, ho, resolve, invoke, builtin, hs, hx, hrun, Result.andThen]
  exact hK _ _ h
/-- An empty slice of the call's own. -/
theorem own_emptyI (w : World) (base : Nat) (h : base ≤ w.heap.size) : (w.alloc (.cells #[] 3)).ownsRow base 3 1 (.slice (some ⟨w.heap.size, 0, none⟩) 0 0) 0 [] :=
  ⟨rfl, .inr ⟨w.heap.size, 0, #[], rfl, h, heap_alloc_new w _, Nat.le_refl _, Nat.zero_le _, rfl, rfl⟩⟩
/-- A number is written into a row of the call's own. -/
theorem own_setI {w : World} {base g n c k : Nat} {cur : List Int} (h : w.ownsRow base 3 1 (.slice (some ⟨g, 0, none⟩) n c) n (ints cur)) (z : Int) :
    (w.setCell ⟨g, k, none⟩ (.int .i64 z)).ownsRow base 3 1 (.slice (some ⟨g, 0, none⟩) n c) n (ints (cur.set k z)) := by
  refine ⟨by have := h.1; rw [ints_len] at this ⊢; rw [List.length_set]; exact this, ?_⟩
  rcases h.2 with ⟨e, _⟩ | ⟨g', c', cu, e, hb, hg, hc, hm, hs, ht⟩
  · cases e
  · injection e with e1 e2 e3
    injection e1 with e1
    injection e1 with e1
    subst e1 e3
    refine .inr ⟨g, c, cu.setIfInBounds k (.int .i64 z), rfl, hb, by simp [World.setCell, Array.getElem?_modify, hg], hc, hm, by simpa using hs, ?_⟩
    rw [Array.toList_setIfInBounds, List.take_set, ht]
    simp [ints]
theorem own_cellI {w : World} {base g n c k : Nat} {cur : List Int} (h : w.ownsRow base 3 1 (.slice (some ⟨g, 0, none⟩) n c) n (ints cur)) (hk : k < n) :
    ∃ z, w.cell? ⟨g, k, none⟩ = some (.int .i64 z) ∧ w.frozen? ⟨g, k, none⟩ = false ∧ base ≤ g ∧ Hid (cur[k]?.getD 0 = z) := by
  have hl : cur.length = n := by have := h.1; rw [ints_len] at this; omega
  refine ⟨cur[k]?.getD 0, ?_, ?_, ?_, rfl⟩
  · have := h.cells (g := g) rfl k (.int .i64 (cur[k]?.getD 0)) (ints_at (by omega))
    rw [Addr.add_lit] at this
    simpa using this
  · rcases h.2 with ⟨e, _⟩ | ⟨g', c', cu, e, hb, hg, _⟩
    · cases e
    · injection e with e1
      injection e1 with e1
      injection e1 with e1
      subst e1
      simp [World.frozen?, hg]
  · exact (h.lt g rfl).1
/-- What next hands back. -/
def Nxt (w : World) (zs : List Int) (e : Ending) (w' : World) : Prop := ∃ V, e = .returned V ∧ Hid (w'.ownsRow w.heap.size 3 1 V zs.length (ints zs)) ∧ Below w.heap.size w w'
set_option maxRecDepth 100000 in
set_option maxHeartbeats 2000000 in
theorem rnext_any (A : Option Addr) (n c : Nat) (zs : List Int) (i : Int) (w : World) (hr : Rd w A zs) (hn : zs.length = n) (hi : 1 ≤ i) (hi2 : i ≤ 100) (hl : n ≤ 65536) (hv : M.Val i zs) :
    Calls Try.prog 128 #[.slice A n c, .int .i64 i] w (Nxt w (M.next i zs)) := by
  obtain ⟨i0, hi0, hz0, hz1, hz2⟩ := info_parts int_info
  obtain ⟨R, hR⟩ : ∃ R, M.next i zs = R := ⟨_, rfl⟩
  have HRE := Lib.hid hR
  rw [hR]
  have HV := Lib.hid hv
  have HN := Lib.hid hn
  clear hR hv
  have hpost : Hid (∀ (V : Value) (w' : World), Hid (w'.ownsRow w.heap.size 3 1 V R.length (ints R)) → Below w.heap.size w w' → Nxt w R (.returned V) w') := fun V w' h1 h2 => ⟨V, rfl, h1, h2⟩
  have hown0 := own_emptyI w w.heap.size (Nat.le_refl _)
  have hbA : Below w.heap.size w (w.alloc (.cells #[] 3)) := (Below.refl _ _).alloc (Nat.le_refl _) _
  go_enter Try.func128, Try.ntmps128
  go_upto_region 1 with fail
  go_cut [5] from 7 to 9 (fun v wx => ∃ g cp, v = .slice (some ⟨g, 0, none⟩) n cp ∧ Hid (wx.ownsRow w.heap.size 3 1 (.slice (some ⟨g, 0, none⟩) n cp) n (ints zs)) ∧ Below w.heap.size w wx)
  case first =>
    rcases Nat.eq_zero_or_pos n with h0 | h0
    · subst h0
      have hzs : zs = [] := List.length_eq_zero_iff.1 HN.out
      subst hzs
      have HO := Lib.hid hown0
      clear hn hown0
      go_wp2_with (at_builtin; refine wpList_append_none _ rfl _ _ 30 rfl 3 i0 hi0 Try.underlying30 ⟨w.heap.size, 0, none⟩ A c rfl rfl ?_)
      go_wp2
      go_meet
      exact ⟨_, 0, rfl, HO.out, hbA⟩
    · obtain ⟨b, off, rfl, hb, hc⟩ := hr (by rw [HN.out]; exact h0)
      have hnews : Hid (∀ j u, (ints zs)[j]? = some u → (w.alloc (.cells #[] 3)).cell? ((⟨b, off, none⟩ : Addr).add j) = some u) := fun j u hj => by
        have hjl : j < zs.length := by have := (List.getElem?_eq_some_iff.1 hj).1; rwa [ints_len] at this
        rw [ints_at hjl] at hj
        injection hj with hj
        subst hj
        rw [Addr.add_lit, World.cell?_alloc_past _ _ _ (by show b < _; exact hb)]
        exact hc j hjl
      have h1c : Hid (∀ u ∈ ints zs, u.oneCell' = true) := fun u hu => by
        obtain ⟨z, _, rfl⟩ := List.mem_map.1 hu
        rfl
      have hil : Hid ((ints zs).length = n * 1) := by show _ = _; rw [ints_len, HN.out, Nat.mul_one]
      have h3 : 0 + n ≤ maxLen := by unfold maxLen; omega
      have h4 : (0 + n) * 8 ≤ 140737488355328 := by omega
      have h5 : w.heap.size ≤ (w.alloc (.cells #[] 3)).heap.size := by simp
      have HO := Lib.hid hown0
      clear hn hown0 hc
      go_wp2_with (at_builtin; refine wpList_append_own _ rfl _ _ 30 rfl w.heap.size 3 i0 (.int .i64 0) 1 8 Try.underlying30 hi0 hz0 hz1 hz2 rfl (by decide) _ _ _ rfl HO.out ⟨b, off, none⟩ n c (ints zs) rfl hil.out hnews.out h1c.out h3 h4 h5 ?_)
      intro v1 w1 hown1 hg1 _
      obtain ⟨g, cp, rfl⟩ : ∃ g cp, v1 = .slice (some ⟨g, 0, none⟩) n cp := by
        rcases hown1.2 with ⟨_, e0⟩ | ⟨g, cp, cur, e, _⟩
        · omega
        · exact ⟨g, cp, e⟩
      have hown2 : Hid (w1.ownsRow w.heap.size 3 1 (.slice (some ⟨g, 0, none⟩) n cp) n (ints zs)) := by
        exact hown1
      have hbx := hbA.grown hg1 h5 (fun j hj => (HO.out.lt j hj).1)
      clear hown1 hg1
      go_wp2
      go_meet
      exact ⟨g, cp, rfl, hown2, hbx⟩
  case rest =>
    obtain ⟨g, cp, rfl, HO, hbx⟩ := hcut
    clear hown0 hbA hr hn
    go_wp2
    go_loopw [6] (fun x wr => ∃ (k : Nat) (cur : List Int), k ≤ n ∧ x = .int .i64 ((n : Int) - 1 - k) ∧ Hid (wr.ownsRow w.heap.size 3 1 (.slice (some ⟨g, 0, none⟩) n cp) n (ints cur)) ∧ Hid (M.Fol i zs k cur) ∧ Below w.heap.size w wr) (fun x _ => ((intOf x) + 1).toNat)
    case atStart => exact ⟨0, zs, Nat.zero_le _, by go_num, HO, M.Fol.start i zs, hbx⟩
    case round =>
      obtain ⟨k, cur, hk, rfl, HO2, HF, hbr⟩ := hrel
      clear HO hbx
      by_cases hlt : k < n
      · obtain ⟨j, hj⟩ : ∃ j : Nat, n = k + 1 + j := ⟨n - (k + 1), by omega⟩
        have hji : (n : Int) - 1 - k = (j : Int) := by omega
        have hjn : j < n := by omega
        have HJ := Lib.hid hj
        rw [hji]
        have hlz : k < zs.length := by rw [HN.out]; exact hlt
        have hjj : zs.length - 1 - k = j := by rw [HN.out]; omega
        obtain ⟨z, hc, hf, hbg, hz⟩ := own_cellI HO2.out (k := j) (by omega)
        have hz' : cur[zs.length - 1 - k]?.getD 0 = z := by rw [hjj]; exact hz.out
        obtain ⟨hv1, hv2⟩ := HF.out.val hlz hz' HV.out
        have hwg : w.heap.size ≤ (⟨g, j, none⟩ : Addr).block := hbg
        by_cases hup : z < i - 1
        · have HU : Hid (R = cur.set j (z + 1)) := by
            have := HRE.out.symm.trans (HF.out.up hlz hz' hup)
            rwa [hjj] at this
          have HL : Hid (R.length = n) := by
            show _ = _
            rw [HU.out, List.length_set, HF.out.len (Nat.le_of_lt hlz), HN.out]
          have HS := Lib.hid (own_setI (k := j) HO2.out (z + 1))
          have hbr' := hbr.setCell hwg (.int .i64 (z + 1))
          have HP := Lib.hid (hpost.out (.slice (some ⟨g, 0, none⟩) n cp) _ (by show World.ownsRow _ _ _ _ _ _ _; rw [HL.out, HU.out]; exact HS.out) hbr')
          clear hz' hjj hlz hji hj
          go_wp2
          go_ret
          exact HP.out
        · have HU : Hid (M.Fol i zs (k + 1) (cur.set j 0)) := by
            have := HF.out.over hlz hz' hup
            rwa [hjj] at this
          have HS := Lib.hid (own_setI (k := j) HO2.out 0)
          have hbr' := hbr.setCell hwg (.int .i64 0)
          clear hz' hjj hlz hji hj
          go_wp2
          have hj := HJ.out
          go_roundw
          case rel => exact ⟨k + 1, _, by omega, by go_num, HS.out, HU, hbr'⟩
          case measure => simp [intOf] <;> omega
      · obtain rfl : k = n := by omega
        have hm1 : (k : Int) - 1 - k = -1 := by omega
        rw [hm1]
        have hsz := hbr.size
        have HL : Hid (R = cur ++ [0]) := by
          have h1 : M.Fol i zs zs.length cur := by rw [HN.out]; exact HF.out
          have h2 := h1.1
          show _ = _
          rw [← HRE.out, h1.done, h2]
          simp [List.replicate_succ']
        have HL2 : Hid (R.length = k + 1) := by
          show _ = _
          rw [HL.out, List.length_append, HF.out.len (by rw [HN.out]; exact Nat.le_refl _), HN.out]
          rfl
        go_wp2_with (at_builtin; refine wpList_append_own _ rfl _ _ 30 rfl w.heap.size 3 i0 (.int .i64 0) 1 8 Try.underlying30 hi0 hz0 hz1 hz2 rfl (by decide) _ _ _ rfl (HO2.out.alloc _) ⟨wr.heap.size, 0, none⟩ 1 1 [.int .i64 0] rfl rfl ?c1 ?c2 ?c3 ?c4 ?c5 ?_)
        case c1 => exact (cell_one_new _ _ _)
        case c2 => intro u hu; simp at hu; subst hu; rfl
        case c3 => unfold maxLen; omega
        case c4 => omega
        case c5 => simp; omega
        intro v1 w1 hown1 hg1 _
        obtain ⟨hown2, hbr2⟩ := own_step hbr hsz HO2.out hown1 hg1
        have HP := Lib.hid (hpost.out v1 w1 (by show World.ownsRow _ _ _ _ _ _ _; rw [HL2.out, HL.out]; exact hown2) hbr2)
        clear hown1 hg1 hown2
        go_wp2
        go_ret
        exact HP.out
end Go.Proofs.Ytgafpmgdpigliaa

namespace Go.Proofs.Ytgafpmgdpigliaa
open Go.RowKit
open Mc (Ed Ma)

/-- A word of the call's own. -/
abbrev OwI (w : World) (base : Nat) (v : Value) (x : List Int) : Prop := w.ownsRow base 3 1 v x.length (ints x)
theorem OwI.away {w : World} {base : Nat} {v : Value} {x : List Int} (h : OwI w base v x) {G k : Nat} (u : Value) (hG : G < base) : OwI (w.setCell ⟨G, k, none⟩ u) base v x :=
  h.kept (grown_setCell w ⟨G, k, none⟩ u) (by
    cases hv : v.ownBlock with
    | none => exact Or.inl rfl
    | some j => exact Or.inr fun e => by injection e with e; have := (h.lt j hv).1; simp at e; omega)
theorem OwI.nil_ (w : World) (base : Nat) : OwI w base (.slice none 0 0) [] := World.ownsRow_nil _ _ _ _
/-- Block g holds the words l, each in memory from base on. -/
def Ws (w : World) (g base : Nat) (l : List (List Int)) : Prop := ∃ vs : List Value, w.heap[g]? = some (.cells vs.toArray 30 (0, 0)) ∧ vs.length = l.length ∧ ∀ (k : Nat) (x : List Int), l[k]? = some x → ∃ v, vs[k]? = some v ∧ OwI w base v x
section
variable {w w' : World} {g base : Nat} {l : List (List Int)}
theorem Ws.lt (h : Ws w g base l) : g < w.heap.size := by
  obtain ⟨vs, h1, _⟩ := h
  exact (Array.getElem?_eq_some_iff.1 h1).1
theorem Ws.below (h : Ws w g base l) (hb : Below w.heap.size w w') : Ws w' g base l := by
  have hl := h.lt
  obtain ⟨vs, h1, h2, h3⟩ := h
  refine ⟨vs, (hb.block g hl).trans h1, h2, fun k x hk => ?_⟩
  obtain ⟨v, h4, h5⟩ := h3 k x hk
  exact ⟨v, h4, own_below h5 hb⟩
theorem Ws.away (h : Ws w g base l) {G k : Nat} (u : Value) (hG : G < base) (hne : G ≠ g) : Ws (w.setCell ⟨G, k, none⟩ u) g base l := by
  obtain ⟨vs, h1, h2, h3⟩ := h
  refine ⟨vs, (Below.heap_setCell w ⟨G, k, none⟩ u g (fun e => hne e.symm)).trans h1, h2, fun j x hk => ?_⟩
  obtain ⟨v, h4, h5⟩ := h3 j x hk
  exact ⟨v, h4, h5.away u hG⟩
theorem Ws.set_ (h : Ws w g base l) {t : Nat} {v : Value} {x : List Int} (hx : OwI w base v x) (hg : g < base) (ht : t < l.length) : Ws (w.setCell ⟨g, t, none⟩ v) g base (l.set t x) := by
  obtain ⟨vs, h1, h2, h3⟩ := h
  refine ⟨vs.set t v, by simp [World.setCell, Array.getElem?_modify, h1], by simp [h2], fun j y hk => ?_⟩
  by_cases e : t = j
  · subst e
    rw [List.getElem?_set_self ht] at hk
    injection hk with hk
    subst hk
    exact ⟨v, by rw [List.getElem?_set_self (by omega)], hx.away v hg⟩
  · rw [List.getElem?_set_ne e] at hk
    obtain ⟨u, h4, h5⟩ := h3 j y hk
    exact ⟨u, by rw [List.getElem?_set_ne e]; exact h4, h5.away v hg⟩
theorem Ws.lower {b' : Nat} (h : Ws w g base l) (hb : b' ≤ base) : Ws w g b' l := by
  obtain ⟨vs, h1, h2, h3⟩ := h
  refine ⟨vs, h1, h2, fun j x hk => ?_⟩
  obtain ⟨v, h4, h5⟩ := h3 j x hk
  exact ⟨v, h4, own_base h5 hb⟩
theorem Ws.frozen (h : Ws w g base l) (k : Nat) : w.frozen? ⟨g, k, none⟩ = false := by
  obtain ⟨vs, h1, _⟩ := h
  simp [World.frozen?, h1]
theorem Ws.cell (h : Ws w g base l) {k : Nat} (hk : k < l.length) : ∃ v, w.cell? ⟨g, k, none⟩ = some v ∧ Hid (∃ x, l[k]? = some x ∧ OwI w base v x) := by
  obtain ⟨vs, h1, h2, h3⟩ := h
  obtain ⟨v, h4, h5⟩ := h3 k _ (List.getElem?_eq_getElem hk)
  refine ⟨v, ?_, _, List.getElem?_eq_getElem hk, h5⟩
  rw [cell_of_row w g k _ 30 (0, 0) h1]
  simpa using h4
theorem BlkB.away {cs : List Bool} (h : BlkB w g cs) {G k : Nat} (u : Value) (hne : G ≠ g) : BlkB (w.setCell ⟨G, k, none⟩ u) g cs :=
  (Below.heap_setCell w ⟨G, k, none⟩ u g (fun e => hne e.symm)).trans h
end
theorem words_info : (Try.prog.info? 30).map (fun i => (i.zero, i.size, i.bytes)) = some (some (.slice none 0 0), 1, 24) := by kernel_rfl
/-- make([][]int, n): a block of empty words. -/
theorem wpList_make_words (w : World) {ops : Array Oper} {rest : List Oper} {o : Oper} {a : Act} {Q : Exit → Act → World → Prop}
    (hg : o.guard = none) (l c : Operand) (hop : o.op = Op.makeSlice 158 l c) (L : Int) (n : Nat) (hl : a.eval l = .int .i64 L) (hc : a.eval c = .int .i64 L) (hL : L = (n : Int)) (hn : n ≤ 65537)
    (hK : ∀ w', Hid (∀ base, Ws w' w.heap.size base (List.replicate n [])) → Below w.heap.size w w' → w'.heap.size = w.heap.size + 1 → wpList Try.prog ops Q rest (a.put o.dst (.slice (some ⟨w.heap.size, 0, none⟩) n n)) w') :
    wpList Try.prog ops Q (o :: rest) a w := by
  subst hL
  refine wpList_plain hg fun K hK' => ?_
  have hrun := run_make_row' (P := Try.prog) 158 30 (.slice none 0 0) 24 Try.underlying158 words_info rfl .i64 .i64 n (by omega) (by omega) w
  unfold Oper.wp
  simp [execOp, hop, hl, hc, hrun, Result.andThen]
  refine hK' _ _ (hK _ ?_ ((Below.refl _ _).alloc (Nat.le_refl _) _) (by simp))
  intro base
  refine ⟨List.replicate n (.slice none 0 0), ?_, by simp, fun k x hk => ?_⟩
  · rw [heap_alloc_new]
    have e := toList_madeCells_one (.slice none 0 0) n
    have e2 : madeCells #[.slice none 0 0] n = (List.replicate n (Value.slice none 0 0)).toArray := by
      rw [← Array.toList_inj, e]
    rw [e2]
  · rw [List.getElem?_replicate] at hk
    split at hk
    · rename_i hkn
      injection hk with hk
      subst hk
      exact ⟨_, by rw [List.getElem?_replicate, if_pos hkn], OwI.nil_ _ _⟩
    · cases hk
theorem own_formI {w : World} {base k : Nat} {v : Value} {xs : List Value} (h : w.ownsRow base 3 1 v k xs) : ∃ A c, v = .slice A k c ∧ k ≤ c := by
  rcases h.2 with ⟨rfl, h0⟩ | ⟨g, cap, cur, rfl, _, _, hc, _⟩
  · exact ⟨none, 0, by rw [h0], by omega⟩
  · exact ⟨_, _, rfl, hc⟩
/-- What Paths hands back. -/
def Pths (w : World) (m : Ma) (s : Int) (e : Ending) (w' : World) : Prop := ∃ (g1 g2 n base : Nat) (l : List (List Int)) (is : List Bool), e = .returned (.tuple #[.slice (some ⟨g1, 0, none⟩) n n, .slice (some ⟨g2, 0, none⟩) n n]) ∧ Hid (n = m.r.length) ∧ Hid (Ws w' g1 base l) ∧ Hid (BlkB w' g2 is) ∧ Hid (∃ x, Mc.PT m s x l is ∧ m.r.length ≤ x.length) ∧ Hid (w.heap.size ≤ g1 ∧ g1 < base ∧ w.heap.size ≤ g2 ∧ g2 < base ∧ g1 ≠ g2) ∧ Below w.heap.size w w'
set_option maxRecDepth 100000 in
set_option maxHeartbeats 4000000 in
theorem paths_any (m : Ma) (s : Int) (A : Option Addr) (c : Nat) (w : World) (v : Mc.Val m) (hr : RdR w A m.r) (hs : 0 ≤ s ∧ s < m.r.length) :
    Calls Try.prog 120 #[.agg #[.int .i64 m.i, .int .i64 m.o, .slice A m.r.length c], .int .i64 s] w (Pths w m s) := by
  have h1 := v.i1
  have h2 := v.r1
  have h3 := v.i0
  have CA := fun ws W n d wr h1 h2 h3 h4 h5 => rafter_any m A c v ws s W n d wr h1 h2 (Or.inr hs) h3 h4 h5
  have HS0 := Lib.hid (Mc.PT.start v.i0 s)
  have HV := Lib.hid v
  have HF := Lib.hid (fun x => Mc.far_lt (w := x) v.i0)
  obtain ⟨P0, hP0⟩ : ∃ P0, Pths w m s = P0 := ⟨_, rfl⟩
  have HP0 := Lib.hid hP0
  rw [hP0]
  clear v hP0
  obtain ⟨i, o, rs⟩ := m
  simp only at hr h1 h2 h3 CA HS0 ⊢
  go_enter Try.func120, Try.ntmps120
  go_wp2_with (refine wpList_make_words _ rfl _ _ rfl _ rs.length rfl rfl rfl (by omega) ?_)
  intro w1 hW1 hb1 hz1
  have hb2 : Below (w.heap.size + 1) (boxM w i o A rs.length c) w1 := hb1.mono (by simp)
  obtain ⟨b0, b1, b2⟩ := box_cells hb2
  have esz : (boxM w i o A rs.length c).heap.size = w.heap.size + 1 := by simp
  clear esz
  go_wp2_with (refine wpList_make_bools _ rfl _ _ rfl _ rs.length rfl rfl rfl (by omega) ?_)
  intro w2 hB2 hb3
  have hz2 := hb3.size
  have hb4 : Below (w.heap.size + 1) (boxM w i o A rs.length c) w2 := hb2.trans (hb3.mono (by omega))
  obtain ⟨c0, c1, c2⟩ := box_cells hb4
  have hl2 := hB2.out.lt
  have hW2 := Lib.hid (fun base => (hW1.out base).below (by rw [hz1]; exact hb3))
  obtain ⟨g1, hg1⟩ : ∃ g1, w.heap.size + 1 = g1 := ⟨_, rfl⟩
  obtain ⟨g2, hg2⟩ : ∃ g2, g1 + 1 = g2 := ⟨_, rfl⟩
  rw [hg1, hg2] at hB2 hl2
  rw [hg1] at hW2
  try rw [hg1]
  try rw [hg2]
  have hw3 := own_emptyI w2 (g2 + 1) (by omega)
  have hb5 := hb4.alloc (by omega) (.cells #[] 3)
  have hW3 := Lib.hid ((hW2.out (g2 + 1)).below ((Below.refl w2.heap.size w2).alloc (Nat.le_refl _) (.cells #[] 3)))
  have hB3 := Lib.hid (hB2.out.below ((Below.refl w2.heap.size w2).alloc (Nat.le_refl _) (.cells #[] 3)) hl2)
  clear b0 b1 b2 hW1 hb1 hb2 hB2 hb3 hb4 hW2
  go_wp2
  go_loopg [8] (Mc.far ⟨i, o, rs⟩ []) (fun k v wr => ∃ (x : List Int) (l : List (List Int)) (is : List Bool) (B : Option Addr) (d : Nat), v = .slice B x.length d ∧ x.length ≤ rs.length + 1 ∧ x.length ≤ d ∧ k = Mc.far ⟨i, o, rs⟩ x ∧ Hid (OwI wr (g2 + 1) (.slice B x.length d) x) ∧ Hid (Ws wr g1 (g2 + 1) l) ∧ Hid (BlkB wr g2 is) ∧ Hid (Mc.PT ⟨i, o, rs⟩ s x l is) ∧ g2 + 1 ≤ wr.heap.size ∧ Below (w.heap.size + 1) (boxM w i o A rs.length c) wr)
  case atStart => exact ⟨[], _, _, _, 0, rfl, Nat.zero_le _, Nat.zero_le _, rfl, hw3, hW3, hB3, HS0, by simp; omega, hb5⟩
  case round =>
    clear hw3 hW3 hB3 HS0 hb5 hl2 hz1 hz2 c0 c1 c2
    obtain ⟨x, l, is, B, d, rfl, hx1, hxd, hgk, hO, hW, hB, hP, hsz, hbr⟩ := hrel
    obtain ⟨b0, b1, b2⟩ := box_cells hbr
    obtain ⟨nx, hnx⟩ : ∃ nx, x.length = nx := ⟨_, rfl⟩
    have HX := Lib.hid hnx
    rw [hnx] at hx1 hxd hO ⊢
    by_cases hlt : nx < rs.length
    · have hrx := hr.below (box_below hbr)
      have hdx : Rd wr B x := Rd.of_own (n := nx) (by have := hO.out; unfold OwI at this; rw [HX.out] at this; exact this)
      have CA1 := CA x B nx d wr hrx hdx hP.out.vw hnx hxd
      have hT := Lib.hid (Mc.aft_st HV.out x s (Or.inr hs) hP.out.vw)
      clear hnx
      go_wp2_with fail
      refine CA1.mono ?_
      rintro e w4 ⟨rfl, hb4⟩
      have hO4 : Hid (OwI w4 (g2 + 1) (.slice B nx d) x) := own_below hO.out hb4
      have hW4 := Lib.hid (hW.out.below hb4)
      have hB4 := Lib.hid (hB.out.below hb4 hB.out.lt)
      have hbr4 := hbr.trans (hb4.mono (by omega))
      have hsz4 := hb4.size
      have hs4 : g2 + 1 ≤ w4.heap.size := by omega
      clear hO hW hB hbr b0 b1 b2 hrx hdx CA1
      obtain ⟨b0, b1, b2⟩ := box_cells hbr4
      obtain ⟨tt, htt⟩ : ∃ tt, Mc.aft ⟨i, o, rs⟩ s x = tt := ⟨_, rfl⟩
      have HT := Lib.hid htt
      rw [htt] at hT ⊢
      clear htt hb4 hsz4 hsz
      rcases hT.out with h0 | ⟨h0, h5⟩
      · subst h0
        go_wp2_with fail
        refine (rnext_any B nx d x i _ (Rd.of_own (n := nx) (by have := hO4.out; unfold OwI at this; rw [HX.out] at this; exact this)) HX.out h3 (by omega) (by omega) hP.out.vw).mono ?_
        rintro e w9 ⟨V, rfl, hV, hb9⟩
        have HP9 := Lib.hid (hP.out.skip h3 (fun q hq => by rw [HT.out] at hq; omega))
        have hV9 := Lib.hid (own_base hV.out hs4)
        have hW9 := Lib.hid (hW4.out.below hb9)
        have hB9 := Lib.hid (hB4.out.below hb9 hB4.out.lt)
        have hz9 := hb9.size
        have hbr9 := hbr4.trans (hb9.mono (by omega))
        have hs9 : g2 + 1 ≤ w9.heap.size := by omega
        obtain ⟨B9, d9, hv9, hd9⟩ := own_formI hV9.out
        subst hv9
        obtain ⟨_, _, hl1, hl2⟩ := M.next_val h3 _ x rfl hP.out.vw
        have hF9 := Lib.hid (HF.out x hP.out.vw (by rw [HX.out]; exact hlt))
        go_wp2
        go_roundg (Mc.far ⟨i, o, rs⟩ (M.next i x))
        case measure => rw [hgk]; exact hF9.out
        case rel => exact ⟨M.next i x, _, _, B9, d9, rfl, (by have := HX.out; omega), hd9, rfl, hV9.out, hW9, hB9, HP9, hs9, hbr9⟩
      · obtain ⟨t, rfl⟩ := Int.eq_ofNat_of_zero_le h0
        have htl : t < rs.length := by have h6 : (t : Int) < rs.length := h5; omega
        obtain ⟨z, hc, hf, hz⟩ := hB4.out.at_ (k := t) (by rw [hP.out.li]; exact htl)
        cases z with
        | true =>
          go_wp2_with fail
          refine (rnext_any B nx d x i _ (Rd.of_own (n := nx) (by have := hO4.out; unfold OwI at this; rw [HX.out] at this; exact this)) HX.out h3 (by omega) (by omega) hP.out.vw).mono ?_
          rintro e w9 ⟨V, rfl, hV, hb9⟩
          have HP9 := Lib.hid (hP.out.skip h3 (fun q hq => by rw [HT.out] at hq; have e : q = t := (by omega); rw [e, hz.out]; simp))
          have hV9 := Lib.hid (own_base hV.out hs4)
          have hW9 := Lib.hid (hW4.out.below hb9)
          have hB9 := Lib.hid (hB4.out.below hb9 hB4.out.lt)
          have hz9 := hb9.size
          have hbr9 := hbr4.trans (hb9.mono (by omega))
          have hs9 : g2 + 1 ≤ w9.heap.size := by omega
          obtain ⟨B9, d9, hv9, hd9⟩ := own_formI hV9.out
          subst hv9
          obtain ⟨_, _, hl1, hl2⟩ := M.next_val h3 _ x rfl hP.out.vw
          have hF9 := Lib.hid (HF.out x hP.out.vw (by rw [HX.out]; exact hlt))
          go_wp2
          go_roundg (Mc.far ⟨i, o, rs⟩ (M.next i x))
          case measure => rw [hgk]; exact hF9.out
          case rel => exact ⟨M.next i x, _, _, B9, d9, rfl, (by have := HX.out; omega), hd9, rfl, hV9.out, hW9, hB9, HP9, hs9, hbr9⟩
        | false =>
          have hf2 := hW4.out.frozen t
          obtain ⟨u, hc2, _⟩ := hW4.out.cell (k := t) (by rw [hP.out.ll]; exact htl)
          have hg12 : g1 ≠ g2 := by omega
          have hB5 := Lib.hid ((hB4.out.set_ t true).away (k := t) (.slice B nx d) hg12)
          have hW5 := Lib.hid ((hW4.out.away (k := t) (.bool true) (by omega : g2 < g2 + 1) (fun e => hg12 e.symm)).set_ (t := t) (hO4.out.away (k := t) (.bool true) (by omega : g2 < g2 + 1)) (by omega) (by rw [hP.out.ll]; exact htl))
          have hO5 := Lib.hid ((hO4.out.away (k := t) (.bool true) (by omega : g2 < g2 + 1)).away (G := g1) (k := t) (.slice B nx d) (by omega))
          have hbr5 := (hbr4.setCell (p := ⟨g2, t, none⟩) (by show w.heap.size + 1 ≤ g2; omega) (.bool true)).setCell (p := ⟨g1, t, none⟩) (by show w.heap.size + 1 ≤ g1; omega) (.slice B nx d)
          have hs5 : g2 + 1 ≤ ((w4.setCell ⟨g2, t, none⟩ (.bool true)).setCell ⟨g1, t, none⟩ (.slice B nx d)).heap.size := by simpa [World.setCell] using hs4
          go_wp2_with fail
          refine (rnext_any B nx d x i _ (Rd.of_own (n := nx) (by have := hO5.out; unfold OwI at this; rw [HX.out] at this; exact this)) HX.out h3 (by omega) (by omega) hP.out.vw).mono ?_
          rintro e w9 ⟨V, rfl, hV, hb9⟩
          have HP9 := Lib.hid (hP.out.hit h3 HT.out hz.out)
          have hV9 := Lib.hid (own_base hV.out hs5)
          have hW9 := Lib.hid (hW5.out.below hb9)
          have hB9 := Lib.hid (hB5.out.below hb9 hB5.out.lt)
          have hz9 := hb9.size
          have hbr9 := hbr5.trans (hb9.mono (by omega))
          have hs9 : g2 + 1 ≤ w9.heap.size := by omega
          obtain ⟨B9, d9, hv9, hd9⟩ := own_formI hV9.out
          subst hv9
          obtain ⟨_, _, hl1, hl2⟩ := M.next_val h3 _ x rfl hP.out.vw
          have hF9 := Lib.hid (HF.out x hP.out.vw (by rw [HX.out]; exact hlt))
          go_wp2
          go_roundg (Mc.far ⟨i, o, rs⟩ (M.next i x))
          case measure => rw [hgk]; exact hF9.out
          case rel => exact ⟨M.next i x, _, _, B9, d9, rfl, (by have := HX.out; omega), hd9, rfl, hV9.out, hW9, hB9, HP9, hs9, hbr9⟩
    · have hge : rs.length ≤ x.length := by rw [hnx]; omega
      have HG := Lib.hid hge
      clear hnx hge
      go_wp2
      rw [← HP0.out]
      exact ⟨g1, g2, rs.length, g2 + 1, l, is, rfl, rfl, hW, hB, ⟨x, hP.out, HG.out⟩, ⟨by omega, by omega, by omega, by omega, by omega⟩, box_below hbr⟩
end Go.Proofs.Ytgafpmgdpigliaa

namespace Go.Proofs.Ytgafpmgdpigliaa
open Go.RowKit
open Mc (Ed Ma)

/-- Whether a word comes before another one. -/
def M.le1 (x y : List Int) : Int := if M.cmp x y = -1 then 1 else 0
theorem M.le1_yes {x y : List Int} (h : M.cmp x y = -1) : M.le1 x y = 1 := if_pos h
theorem M.le1_no {x y : List Int} (h : M.cmp x y = 1 ∨ M.cmp x y = 0) : M.le1 x y = 0 := if_neg (by omega)
set_option maxHeartbeats 400000 in
theorem less_loop (A B : Option Addr) (c d : Nat) (x y : List Int) (w : World) (hx : Rd w A x) (hy : Rd w B y) (h1 : x.length = y.length) (hm : x.length ≤ 9223372036854775807) :
    Calls Try.prog 104 #[.slice A x.length c, .slice B y.length d] w fun e w' => e = .returned (.int .i64 (M.le1 x y)) ∧ Below w.heap.size w w' := by
  have H1 := Lib.hid h1
  have h2 : (x.length : Int) = y.length := by omega
  clear h1
  go_enter Try.func104, Try.ntmps104
  go_wp2
  clear h2
  go_loopw [5] (fun i wr => ∃ k : Nat, k ≤ x.length ∧ i = .int .i64 k ∧ Hid (x.take k = y.take k) ∧ Below w.heap.size w wr) (fun i _ => x.length - (intOf i).toNat)
  case atStart => exact ⟨0, Nat.zero_le _, rfl, by simp [Hid], Below.refl _ _⟩
  case round =>
    obtain ⟨k, hk, rfl, hn, hbr⟩ := hrel
    by_cases hlt : k < x.length
    · obtain ⟨b, off, z, rfl, hb, hc, hz⟩ := (hx.below hbr).at_ hlt
      obtain ⟨b2, off2, z2, rfl, hb2, hc2, hz2⟩ := (hy.below hbr).at_ (k := k) (by have := H1.out; omega)
      have hk2 : (k : Int) < y.length := by have := H1.out; omega
      rcases Int.lt_trichotomy z z2 with hzz | hzz | hzz
      · have hfin : Hid (M.le1 x y = 1) := M.le1_yes (M.cmp_lt H1.out hlt hn.out (by rw [hz.out, hz2.out]; exact hzz))
        have hne : ¬ z = z2 := by omega
        go_wp2
        go_quiet (fail)
        go_wp2
        go_quiet (fail)
        go_wp2
        go_ret
        exact ⟨ret_int hfin.out.symm, below_drewN' (below_drewN' hbr _) _⟩
      · subst hzz
        have hn' : Hid (x.take (k + 1) = y.take (k + 1)) := M.take_snoc_eq hlt (by omega) hn.out (by rw [hz.out, hz2.out])
        go_wp2
        go_quiet (fail)
        go_wp2
        go_roundw
        case rel => exact ⟨k + 1, by omega, by go_num, hn', below_drewN' hbr _⟩
        case measure => simp [intOf] <;> omega
      · have hfin : Hid (M.le1 x y = 0) := M.le1_no (Or.inl (M.cmp_gt H1.out hlt hn.out (by rw [hz.out, hz2.out]; exact hzz)))
        have hne : ¬ z = z2 := by omega
        go_wp2
        go_quiet (fail)
        go_wp2
        go_quiet (fail)
        go_wp2
        go_ret
        exact ⟨ret_int hfin.out.symm, below_drewN' (below_drewN' hbr _) _⟩
    · have hfin : Hid (M.le1 x y = 0) := M.le1_no (Or.inr (M.cmp_end (by omega) (by have := H1.out; omega) hn.out))
      go_wp2
      go_ret
      exact ⟨ret_int hfin.out.symm, hbr⟩
theorem less_any (A B : Option Addr) (c d : Nat) (x y : List Int) (w : World) (hx : Rd w A x) (hy : Rd w B y) (hm : x.length ≤ 9223372036854775807) :
    Calls Try.prog 104 #[.slice A x.length c, .slice B y.length d] w fun e w' => e = .returned (.int .i64 (M.le1 x y)) ∧ Below w.heap.size w w' := by
  rcases Nat.lt_trichotomy x.length y.length with h | h | h
  · have hf : Hid (M.le1 x y = 1) := M.le1_yes (M.cmp_short h)
    have hne : ¬ (x.length : Int) = y.length := by omega
    go_enter Try.func104, Try.ntmps104
    go_wp2
    go_ret
    exact ⟨ret_int hf.out.symm, Below.refl _ _⟩
  · exact less_loop A B c d x y w hx hy h hm
  · have hf : Hid (M.le1 x y = 0) := M.le1_no (Or.inl (M.cmp_long h))
    have hne : ¬ (x.length : Int) = y.length := by omega
    go_enter Try.func104, Try.ntmps104
    go_wp2
    go_ret
    exact ⟨ret_int hf.out.symm, Below.refl _ _⟩
/-- Less is less in rank. -/
theorem M.le1_rk {n : Int} (hn : 1 ≤ n) {x y : List Int} (hx : M.Val n x) (hy : M.Val n y) : (M.le1 x y = 1 ↔ M.rk n x < M.rk n y) := by
  unfold M.le1
  rw [M.rk_cmp hn hx hy]
  by_cases h : M.rk n x < M.rk n y
  · rw [M.sgn_lt h, if_pos rfl]
    exact ⟨fun _ => h, fun _ => rfl⟩
  · have h2 : ¬ M.sgn (M.rk n x) (M.rk n y) = -1 := by
      unfold M.sgn
      rw [if_neg h]
      split <;> decide
    rw [if_neg h2]
    exact ⟨fun e => absurd e (by decide), fun e => absurd e h⟩
set_option maxHeartbeats 1000000 in
/-- Access. -/
theorem access_any (m : Ma) (A : Option Addr) (c : Nat) (w : World) (v : Mc.Val m) (hr : RdR w A m.r) :
    Calls Try.prog 103 #[.agg #[.int .i64 m.i, .int .i64 m.o, .slice A m.r.length c]] w (Pths w m 0) := by
  have h0 := v.r0
  have hb0 : Below (w.heap.size + 1) (boxM w m.i m.o A m.r.length c) (boxM w m.i m.o A m.r.length c) := Below.refl _ _
  have C := paths_any m 0 A c (boxM w m.i m.o A m.r.length c) v (hr.below (box_below hb0)) ⟨by omega, by omega⟩
  clear v h0
  go_enter Try.func103, Try.ntmps103
  go_wp2_with fail
  refine C.mono ?_
  rintro e w1 ⟨g1, g2, n, base, l, is, rfl, hn, hW, hB, hP, hg, hb⟩
  go_wp2
  go_ret2
  exact ⟨g1, g2, n, base, l, is, rfl, hn, hW, hB, hP, ⟨by have := hg.out; simp at this; omega, hg.out.2.1, by have := hg.out; simp at this; omega, hg.out.2.2.2⟩, box_below (hb.mono (by simp))⟩
end Go.Proofs.Ytgafpmgdpigliaa

namespace Go.Proofs.Ytgafpmgdpigliaa
open Go.RowKit

theorem run_append_zero {P : Program} (w : World) (t ty e : TypeId) (i : TypeInfo) (hi : P.info? e = some i) (ht : P.underlying t = some (.slice e)) (q p : Option Addr) (k d c : Nat) (hk : k ≤ d) :
    (Builtin.append_ #[t, t] ty #[.slice q k d, .slice p 0 c]).run P w = .ok (.slice q k d) w := by
  cases p <;> cases q <;> simp [Builtin.append_, run_underlying ht, sizeOf, typeInfo, hi, Builtin.lenOf, Builtin.firstCells, loadCells, loadCellsFrom, storeCells, hk]
set_option maxRecDepth 100000 in
theorem wpList_append_list (wr : World) {ops : Array Oper} {rest : List Oper} {o : Oper} {a : Act} {Q : Exit → Act → World → Prop} {W0 : World} {B : Nat} {v : Value} {xs ys : List Int} {A : Option Addr} {n c : Nat}
    (hown : OwI wr B v xs) (hr : Rd wr A ys) (hn : ys.length = n) (hlen : xs.length + n ≤ 1000000) (hB : B ≤ wr.heap.size) (hbr : Below B W0 wr) (hgd : o.guard = none) (s x : Operand)
    (ho : o.op = .call { callee := .builtin .append, args := #[s, x], argTypes := #[30, 30] }) (hs : a.eval s = v) (hx : a.eval x = .slice A n c)
    (h : ∀ v1 w1, OwI w1 B v1 (xs ++ ys) → Below B W0 w1 → wpList Try.prog ops Q rest (a.put o.dst v1) w1) : wpList Try.prog ops Q (o :: rest) a wr := by
  obtain ⟨i0, hi0, hz0, hz1, hz2⟩ := info_parts int_info
  rcases Nat.eq_zero_or_pos n with h0 | h0
  · subst h0
    obtain rfl : ys = [] := List.length_eq_zero_iff.1 hn
    obtain ⟨q, d, rfl, hd⟩ := own_formI hown
    refine wpList_plain hgd fun K hK => ?_
    have hrun := run_append_zero (P := Try.prog) wr 30 o.type 3 i0 hi0 Try.underlying30 q A xs.length d c hd
    unfold Oper.wp
    simp [execOp, ho, resolve, invoke, builtin, hs, hx, hrun, Result.andThen]
    exact hK _ _ (h _ _ (by rw [List.append_nil]; exact hown) hbr)
  · obtain ⟨b, off, rfl, hb, hc⟩ := hr (by rw [hn]; exact h0)
    have hil : (ints ys).length = n * 1 := by rw [ints_len, hn, Nat.mul_one]
    refine wpList_append_own _ hgd s x 30 ho B 3 i0 (.int .i64 0) 1 8 Try.underlying30 hi0 hz0 hz1 hz2 rfl (by decide) v xs.length (ints xs) hs hown ⟨b, off, none⟩ n c (ints ys) hx hil ?_ ?_ ?_ ?_ hB ?_
    · intro j u hj
      have hjl : j < ys.length := by have := (List.getElem?_eq_some_iff.1 hj).1; rwa [ints_len] at this
      rw [ints_at hjl] at hj
      injection hj with hj
      subst hj
      rw [Addr.add_lit]
      exact hc j hjl
    · intro u hu
      obtain ⟨z, _, rfl⟩ := List.mem_map.1 hu
      rfl
    · unfold maxLen; omega
    · omega
    · intro v1 w1 hown1 hg1 _
      have hown2 : OwI w1 B v1 (xs ++ ys) := by
        have e : ints (xs ++ ys) = ints xs ++ ints ys := by simp [ints]
        unfold OwI
        rw [e, List.length_append, hn]
        exact hown1
      exact h v1 w1 hown2 (hbr.grown hg1 hB (fun j hj => (hown.lt j hj).1))
end Go.Proofs.Ytgafpmgdpigliaa

namespace Go.Proofs.Ytgafpmgdpigliaa
open Go.RowKit
open Mc (Ed Ma)

/-- A world in which nothing below wr's heap has changed. -/
structure BW (wr : World) where
  out : World
  ok : Below wr.heap.size wr out
instance (wr : World) : Nonempty (BW wr) := ⟨⟨wr, Below.refl _ _⟩⟩
theorem wp_region_quiet_below {P : Program} {id : Nat} {Q : Exit → Act → World → Prop} {a : Act} {wr : World} {l : List Oper} (hm : P.follows .mixedOrders = true) (hB : Region.lexB .any l.toArray = true)
    (h : wpQuiet P l.toArray (fun w' => ∃ x : BW wr, w' = x.out) (fun a' => ∀ w', (∃ x : BW wr, w' = x.out) → Q .normal a' w') l a) : (Code.region id l.toArray true).wp P Q a wr :=
  wp_region_quiet (C := fun w' => ∃ x : BW wr, w' = x.out) hm hB ⟨⟨_, (Below.refl _ _).drew⟩, rfl⟩ (by simpa using h)
theorem Rd.takeL {w : World} {A : Option Addr} {L : List Int} (h : Rd w A L) (j : Nat) : Rd w A (L.take j) := fun hp => by
  rw [List.length_take] at hp
  obtain ⟨b, off, e, hb, hc⟩ := h (by omega)
  refine ⟨b, off, e, hb, fun k hk => ?_⟩
  rw [List.length_take] at hk
  rw [hc k (by omega), List.getElem?_take, if_pos (by omega)]
theorem Rd.dropL {w : World} {b off : Nat} {L : List Int} (h : Rd w (some ⟨b, off, none⟩) L) (j : Nat) : Rd w (some ⟨b, off + j, none⟩) (L.drop j) := fun hp => by
  rw [List.length_drop] at hp
  obtain ⟨b', off', e, hb, hc⟩ := h (by omega)
  injection e with e
  injection e with e1 e2
  subst e1 e2
  refine ⟨b, off + j, rfl, hb, fun k hk => ?_⟩
  rw [List.length_drop] at hk
  rw [List.getElem?_drop, Nat.add_assoc, hc (j + k) (by omega)]
/-- What Order hands back. -/
def Ordd (w : World) (m : Ma) (e : Ending) (w' : World) : Prop := ∃ V L, e = .returned V ∧ Hid (OwI w' w.heap.size V L) ∧ Hid (Mc.Ord m L) ∧ Below w.heap.size w w'
set_option maxRecDepth 100000 in
set_option maxHeartbeats 4000000 in
theorem order_any (m : Ma) (A : Option Addr) (c : Nat) (w : World) (v : Mc.Val m) (hr : RdR w A m.r) :
    Calls Try.prog 93 #[.agg #[.int .i64 m.i, .int .i64 m.o, .slice A m.r.length c]] w (Ordd w m) := by
  have h2 := v.r1
  have hb0 : Below (w.heap.size + 1) (boxM w m.i m.o A m.r.length c) (boxM w m.i m.o A m.r.length c) := Below.refl _ _
  have C := access_any m A c (boxM w m.i m.o A m.r.length c) v (hr.below (box_below hb0))
  have HV := Lib.hid v
  clear v
  go_enter Try.func93, Try.ntmps93
  go_wp2_with fail
  refine C.mono ?_
  rintro e w1 ⟨g1, g2, n, base, l, is, rfl, hn, hW, hB, hP, hg, hb⟩
  obtain ⟨x, hP0, hxl⟩ := hP.out
  have HX := Lib.hid hP0
  have HXL := Lib.hid hxl
  have hbm := box_below (hb.mono (by simp))
  have hwl := Lib.hid hW.out.lt
  have hbl := Lib.hid hB.out.lt
  have hn2 : n ≤ 64 := by rw [hn.out]; exact h2
  clear C hP hP0 hxl h2
  go_wp2
  go_loopw [5, 6] (fun u q wr => ∃ (s : Nat) (L : List Int) (B : Option Addr) (d : Nat), s ≤ n ∧ q = .int .i64 s ∧ u = .slice B L.length d ∧ L.length ≤ d ∧ L.length ≤ s ∧ Hid (OwI wr w1.heap.size (.slice B L.length d) L) ∧ Hid (Mc.OP m is s L) ∧ Below w1.heap.size w1 wr) (fun _ q _ => n - (intOf q).toNat)
  case atStart => exact ⟨0, [], none, 0, Nat.zero_le _, rfl, rfl, Nat.le_refl _, Nat.zero_le _, OwI.nil_ _ _, Mc.OP.start _ _, Below.refl _ _⟩
  case round =>
    obtain ⟨s, L, B, d, hs, rfl, rfl, hLd, hLs, hO, hOP, hbr⟩ := hrel
    have hW2 := hW.out.below hbr
    have hB2 := hB.out.below hbr hbl.out
    obtain ⟨nl, hnl⟩ : ∃ nl, L.length = nl := ⟨_, rfl⟩
    have HL := Lib.hid hnl
    by_cases hlt : s < n
    · obtain ⟨z, hc, hf, hz⟩ := hB2.at_ (k := s) (by rw [HX.out.li, ← hn.out]; exact hlt)
      have hsn : (s : Int) < n := by omega
      cases z with
      | false =>
        have hOP2 := Lib.hid (hOP.out.skip hz.out)
        go_wp2
        go_roundw
        case rel => exact ⟨s + 1, L, B, d, by omega, by go_num, rfl, hLd, by omega, hO, hOP2, hbr⟩
        case measure => simp [intOf] <;> omega
      | true =>
        obtain ⟨u, hl1, hlw, hlr⟩ := HX.out.word HV.out.i0 hz.out
        obtain ⟨us, hcs, hus⟩ := hW2.cell (k := s) (by rw [HX.out.ll, ← hn.out]; exact hlt)
        obtain ⟨Bs, ds, hvs, hds⟩ := own_formI (hus.out.choose_spec.2)
        have hus1 : Hid (OwI wr base us u) := by
          obtain ⟨y, h5, h6⟩ := hus.out
          have : y = u := by rw [hl1] at h5; injection h5 with h5; exact h5.symm
          subst this
          exact h6
        clear hvs hds Bs ds
        obtain ⟨Bs, ds, rfl, hds⟩ := own_formI hus1.out
        have hrs : Rd wr Bs u := Rd.of_own hus1.out
        have hrL : Rd wr B L := Rd.of_own hO.out
        have HLW := Lib.hid hlw
        have HLR := Lib.hid hlr
        have hul : u.length ≤ 64 := by
          have := hlw.short HV.out ⟨by omega, by have := HV.out.r0; omega⟩ (by omega)
          rw [← hn.out] at this
          omega
        obtain ⟨nu, hnu⟩ : ∃ nu, u.length = nu := ⟨_, rfl⟩
        have HU := Lib.hid hnu
        rw [hnu] at hds hul hcs
        rw [hnl] at hLd hLs ⊢
        clear hlw hlr hus hus1 hnl hnu
        obtain ⟨wo, rfl⟩ : ∃ wo : World, wo = wr := ⟨_, rfl⟩
        have HW2 := Lib.hid hW2
        clear hW2 hB2
        go_wp2
        go_loopw [7] (fun q w2 => ∃ j : Nat, j ≤ nl ∧ q = .int .i64 j ∧ Hid (∀ i a, i < j → L[i]? = some a → Mc.ar m a < Mc.ar m s) ∧ Below wo.heap.size wo w2) (fun q _ => nl - (intOf q).toNat)
        case atStart => exact ⟨0, Nat.zero_le _, rfl, fun i a h => absurd h (Nat.not_lt_zero _), Below.refl _ _⟩
        case round =>
          obtain ⟨j, hj, rfl, hlo, hbo⟩ := hrel
          by_cases hjl : j < nl
          · obtain ⟨b, off, t0, hBe, hbb, hct, hLt⟩ := hrL.at_ (k := j) (by rw [HL.out]; exact hjl)
            subst hBe
            have hLt2 : L[j]? = some t0 := by
              have h7 : j < L.length := by rw [HL.out]; exact hjl
              rw [List.getElem?_eq_getElem h7] at hLt ⊢
              exact congrArg some hLt.out
            obtain ⟨t, rfl, hts, htt⟩ := hOP.out.at_ hLt2
            have htn : t < n := by omega
            obtain ⟨y, hy1, hyw, hyr⟩ := HX.out.word HV.out.i0 htt
            obtain ⟨uy, hcy, hyo⟩ := HW2.out.cell (k := t) (by rw [HX.out.ll, ← hn.out]; exact htn)
            have hyo1 : OwI wo base uy y := by
              obtain ⟨y', h5, h6⟩ := hyo.out
              have : y' = y := by rw [hy1] at h5; injection h5 with h5; exact h5.symm
              subst this
              exact h6
            obtain ⟨By, dy, rfl, hdy⟩ := own_formI hyo1
            have hry : Rd wo By y := Rd.of_own hyo1
            have CA : ∀ wz, Below wr.heap.size wr wz → Calls Try.prog 104 #[.slice By y.length dy, .slice Bs nu ds] wz fun e w' => e = .returned (.int .i64 (M.le1 y u)) ∧ Below wz.heap.size wz w' := fun wz hz => by
              have h7 := less_any By Bs dy ds y u wz (hry.below (below_next hbo hz)) (hrs.below (below_next hbo hz)) (by have h8 := hyw.short HV.out ⟨by omega, by have := HV.out.r0; omega⟩ (by omega); rw [← hn.out] at h8; omega)
              rw [HU.out] at h7
              exact h7
            have hWo := Lib.hid (HW2.out.below hbo)
            have hgl := hWo.out.lt
            have hbb2 : b < wr.heap.size := by have := hbo.size; omega
            have hcs2 : wr.cell? ⟨g1, s, none⟩ = some (.slice Bs nu ds) := (hbo.cell (p := ⟨g1, s, none⟩) HW2.out.lt).trans hcs
            have hcy2 : wr.cell? ⟨g1, t, none⟩ = some (.slice By y.length dy) := (hbo.cell (p := ⟨g1, t, none⟩) HW2.out.lt).trans hcy
            have hct2 : wr.cell? ⟨b, off + j, none⟩ = some (.int .i64 t) := (hbo.cell (p := ⟨b, off + j, none⟩) hbb).trans hct
            have f0 : ∀ x : BW wr, x.out.cell? ⟨g1, s, none⟩ = some (.slice Bs nu ds) := fun x => (x.ok.cell (p := ⟨_, _, none⟩) hgl).trans hcs2
            have f1 : ∀ x : BW wr, x.out.cell? ⟨g1, t, none⟩ = some (.slice By y.length dy) := fun x => (x.ok.cell (p := ⟨_, _, none⟩) hgl).trans hcy2
            have f2 : ∀ x : BW wr, x.out.cell? ⟨b, off + j, none⟩ = some (.int .i64 t) := fun x => (x.ok.cell (p := ⟨_, _, none⟩) hbb2).trans hct2
            have hjl2 : (j : Int) < nl := by omega
            have htn2 : (t : Int) < n := by omega
            have HCA := Lib.hid CA
            clear CA hcs hcy hct hcs2 hcy2 hct2 hLt hyo hyo1 hry
            go_wp2_with fail
            refine wp_region_quiet_below (by kernel_rfl) (by kernel_rfl) ?_
            repeat (go_big_quiet_step ((rename_i x; first
              | ((with_reducible refine (HCA.out _ x.ok).mono ?_); rintro e w3 ⟨rfl, hb3⟩; exact ⟨rfl, ⟨w3, below_next x.ok hb3⟩, rfl⟩)
              | fail)))
            refine wpQuiet_nil ?_
            intro w11 hw11
            obtain ⟨⟨wx, hbW⟩, hw3⟩ := hw11
            dsimp only at hw3
            subst hw3
            clear f0 f1 f2
            have hb11 := below_next hbo hbW
            by_cases hle : M.le1 y u = 1
            · have hlr : Hid (Mc.ar m t < Mc.ar m s) := by
                have h8 := (M.le1_rk HV.out.i0 hyw.wd HLW.out.wd).1 hle
                have h9 := HLR.out
                show _ < _
                omega
              have hlo2 : Hid (∀ i a, i < j + 1 → L[i]? = some a → Mc.ar m a < Mc.ar m s) := fun i a h8 h9 => by
                rcases Nat.lt_or_ge i j with h10 | h10
                · exact hlo.out i a h10 h9
                · obtain rfl : i = j := by omega
                  rw [hLt2] at h9
                  injection h9 with h9
                  rw [← h9]
                  exact hlr.out
              rw [hle]
              go_wp2
              go_roundw
              case rel => exact ⟨j + 1, by omega, by go_num, hlo2, hb11⟩
              case measure => simp [intOf] <;> omega
            · have hle0 : M.le1 y u = 0 := by
                unfold M.le1 at hle ⊢
                split at hle <;> simp_all
              have hlr : Hid (¬ Mc.ar m t < Mc.ar m s) := fun h8 => hle ((M.le1_rk HV.out.i0 hyw.wd HLW.out.wd).2 (by have h9 := HLR.out; omega))
              have hhi : Hid (∀ a, L[j]? = some a → ¬ Mc.ar m a < Mc.ar m s) := fun a h9 => by
                rw [hLt2] at h9
                injection h9 with h9
                rw [← h9]
                exact hlr.out
              rw [hle0]
              have hRLx := Lib.hid (hrL.below hb11)
              have hT0 : Hid (Rd w11 (some ⟨b, off, none⟩) (L.take j)) := hRLx.out.takeL j
              have hT1 : Hid ((L.take j).length = j) := by show _ = _; rw [List.length_take, HL.out]; omega
              have hD1 : Hid ((L.drop j).length = nl - j) := by show _ = _; have h8 := HL.out; rw [List.length_drop]; omega
              go_wp2_with (at_builtin; refine wpList_append_list w11 (W0 := w11) (B := w11.heap.size) (xs := []) (ys := L.take j) (OwI.nil_ _ _) hT0.out hT1.out ?a1 (Nat.le_refl _) (Below.refl _ _) rfl _ _ rfl rfl rfl ?_)
              case a1 => first | omega | (simp <;> omega) | fail
              intro v8 w12 hown8 hb12
              obtain ⟨A8, d8, rfl, hd8⟩ := own_formI hown8
              have hz12 := hb12.size
              have hown8' : OwI (w12.alloc (.cells #[.int .i64 s] 3)) w11.heap.size (.slice A8 (L.take j).length d8) (L.take j) := hown8.alloc _
              have hb12' := hb12.alloc hz12 (.cells #[.int .i64 s] 3)
              have hS1 : Hid (Rd (w12.alloc (.cells #[.int .i64 s] 3)) (some ⟨w12.heap.size, 0, none⟩) [(s : Int)]) := Rd.of_block (t := 3) (heap_alloc_new w12 _)
              rw [hT1.out] at hown8'
              try rw [hT1.out]
              have hO8 := Lib.hid hown8'
              have hb12x := Lib.hid hb12'
              clear hown8 hown8' hb12'
              go_wp2_with (at_builtin; refine wpList_append_list _ (W0 := w11) (B := w11.heap.size) (xs := L.take j) (ys := [(s : Int)]) (by unfold OwI; exact hO8.out) hS1.out rfl ?b1 ?b2 hb12x.out rfl _ _ rfl rfl rfl ?_)
              case b1 => rw [hT1.out]; simp <;> omega
              case b2 => simp <;> omega
              intro v9 w13 hown9 hb13
              obtain ⟨A9, d9, rfl, hd9⟩ := own_formI hown9
              have hz13 := hb13.size
              have hD0 := Lib.hid (hRLx.out.below hb13)
              have hO9 := Lib.hid hown9
              have hb13x := Lib.hid hb13
              clear hown9 hb12 hb13
              go_wp2_with (at_builtin; refine wpList_append_list _ (W0 := w11) (B := w11.heap.size) (xs := L.take j ++ [(s : Int)]) (ys := L.drop j) hO9.out (hD0.out.dropL j) hD1.out ?c1 ?c2 hb13x.out rfl _ _ rfl rfl rfl ?_)
              case c1 => rw [List.length_append, hT1.out]; simp <;> omega
              case c2 => exact hz13
              intro v10 w14 hown10 hb14
              have hO10 : Hid (OwI w14 w1.heap.size v10 (L.take j ++ (s : Int) :: L.drop j)) := by
                have h8 := own_base hown10 ((hbr.trans (hb11.mono hbr.size)).size)
                exact h8
              obtain ⟨A10, d10, rfl, hd10⟩ := own_formI hO10.out
              have hOP3 := Lib.hid (hOP.out.ins HV.out.i0 HX.out hz.out hlo.out (fun a h => by have := hhi.out a h; omega))
              have hb14' := hbr.trans ((below_next hb11 hb14).mono hbr.size)
              have hln : (L.take j ++ (s : Int) :: L.drop j).length ≤ s + 1 := by simp; have := HL.out; omega
              clear hown10 hb14
              go_wp2
              go_roundw
              case rel => exact ⟨s + 1, _, A10, d10, by omega, by go_num, rfl, hd10, hln, hO10, hOP3, hb14'⟩
              case measure => simp [intOf] <;> omega
          · obtain rfl : j = nl := by omega
            have hlast : Hid (∀ a, L[j]? = some a → ¬ Mc.ar m a < Mc.ar m s) := fun a h8 => by
              rw [List.getElem?_eq_none (by rw [HL.out]; exact Nat.le_refl _)] at h8
              cases h8
            have hjl3 : ¬ (j : Int) < j := by omega
            have hform : (B = none ∧ j = 0 ∧ d = 0) ∨ ∃ gB, B = some ⟨gB, 0, none⟩ := by
              rcases hO.out.2 with ⟨e, h0⟩ | ⟨gB, cap, cur, e, _⟩
              · injection e with e1 e2 e3
                have := HL.out
                exact Or.inl ⟨e1, by omega, e3⟩
              · injection e with e1 e2 e3
                exact Or.inr ⟨gB, e1⟩
            have hways : (B = none ∧ j = 0 ∧ d = 0) ∨ (∃ gB, B = some ⟨gB, 0, none⟩ ∧ j < d) ∨ (∃ gB, B = some ⟨gB, 0, none⟩ ∧ j = d) := by
              rcases hform with h8 | ⟨gB, h8⟩
              · exact Or.inl h8
              · rcases Nat.lt_or_eq_of_le hLd with h9 | h9
                · exact Or.inr (Or.inl ⟨gB, h8, h9⟩)
                · exact Or.inr (Or.inr ⟨gB, h8, h9⟩)
            clear hform
            go_wp2_with fail
            refine wp_region_quiet_below (by kernel_rfl) (by kernel_rfl) ?_
            repeat (go_big_quiet_step (fail))
            refine wpQuiet_nil ?_
            intro w11 hw11
            obtain ⟨⟨wx, hbW⟩, hw3⟩ := hw11
            dsimp only at hw3
            subst hw3
            have hb11 := below_next hbo hbW
            have hRLx := Lib.hid (hrL.below hb11)
            rcases hways with ⟨rfl, hj0, rfl⟩ | ⟨gB, rfl, hjd⟩ | ⟨gB, rfl, rfl⟩
            · subst hj0
              have hT0 : Hid (Rd w11 none (L.take 0)) := hRLx.out.takeL 0
              have hT1 : Hid ((L.take 0).length = 0) := by show _ = _; rw [List.length_take, HL.out]; omega
              have hD1 : Hid ((L.drop 0).length = 0) := by show _ = _; have h8 := HL.out; rw [List.length_drop]; omega
              go_wp2_with (at_builtin; refine wpList_append_list w11 (W0 := w11) (B := w11.heap.size) (xs := []) (ys := L.take 0) (OwI.nil_ _ _) hT0.out hT1.out ?a1 (Nat.le_refl _) (Below.refl _ _) rfl _ _ rfl rfl rfl ?_)
              case a1 => first | omega | (simp <;> omega) | fail
              intro v8 w12 hown8 hb12
              obtain ⟨A8, d8, rfl, hd8⟩ := own_formI hown8
              have hz12 := hb12.size
              have hown8' : OwI (w12.alloc (.cells #[.int .i64 s] 3)) w11.heap.size (.slice A8 (L.take 0).length d8) (L.take 0) := hown8.alloc _
              have hb12' := hb12.alloc hz12 (.cells #[.int .i64 s] 3)
              have hS1 : Hid (Rd (w12.alloc (.cells #[.int .i64 s] 3)) (some ⟨w12.heap.size, 0, none⟩) [(s : Int)]) := Rd.of_block (t := 3) (heap_alloc_new w12 _)
              rw [hT1.out] at hown8'
              try rw [hT1.out]
              have hO8 := Lib.hid hown8'
              have hb12x := Lib.hid hb12'
              clear hown8 hown8' hb12'
              go_wp2_with (at_builtin; refine wpList_append_list _ (W0 := w11) (B := w11.heap.size) (xs := L.take 0) (ys := [(s : Int)]) (by unfold OwI; exact hO8.out) hS1.out rfl ?b1 ?b2 hb12x.out rfl _ _ rfl rfl rfl ?_)
              case b1 => rw [hT1.out]; simp <;> omega
              case b2 => simp <;> omega
              intro v9 w13 hown9 hb13
              obtain ⟨A9, d9, rfl, hd9⟩ := own_formI hown9
              have hz13 := hb13.size
              have hD0 := Lib.hid (hRLx.out.below hb13)
              have hO9 := Lib.hid hown9
              have hb13x := Lib.hid hb13
              clear hown9 hb12 hb13
              go_wp2_with (at_builtin; refine wpList_append_list _ (W0 := w11) (B := w11.heap.size) (xs := L.take 0 ++ [(s : Int)]) (ys := L.drop 0) hO9.out (fun h8 => absurd h8 (by have := hD1.out; omega)) hD1.out ?c1 ?c2 hb13x.out rfl _ _ rfl rfl rfl ?_)
              case c1 => rw [List.length_append, hT1.out]; simp <;> omega
              case c2 => exact hz13
              intro v10 w14 hown10 hb14
              have hO10 : Hid (OwI w14 w1.heap.size v10 (L.take 0 ++ (s : Int) :: L.drop 0)) := by
                have h8 := own_base hown10 ((hbr.trans (hb11.mono hbr.size)).size)
                exact h8
              obtain ⟨A10, d10, rfl, hd10⟩ := own_formI hO10.out
              have hOP3 := Lib.hid (hOP.out.ins HV.out.i0 HX.out hz.out hlo.out (fun a h => by have := hlast.out a h; omega))
              have hb14' := hbr.trans ((below_next hb11 hb14).mono hbr.size)
              have hln : (L.take 0 ++ (s : Int) :: L.drop 0).length ≤ s + 1 := by simp; have := HL.out; omega
              clear hown10 hb14
              go_wp2
              go_roundw
              case rel => exact ⟨s + 1, _, A10, d10, by omega, by go_num, rfl, hd10, hln, hO10, hOP3, hb14'⟩
              case measure => simp [intOf] <;> omega
            · skip
              have hT0 : Hid (Rd w11 (some ⟨gB, 0, none⟩) (L.take j)) := hRLx.out.takeL j
              have hT1 : Hid ((L.take j).length = j) := by show _ = _; rw [List.length_take, HL.out]; omega
              have hD1 : Hid ((L.drop j).length = 0) := by show _ = _; have h8 := HL.out; rw [List.length_drop]; omega
              go_wp2_with (at_builtin; refine wpList_append_list w11 (W0 := w11) (B := w11.heap.size) (xs := []) (ys := L.take j) (OwI.nil_ _ _) hT0.out hT1.out ?a1 (Nat.le_refl _) (Below.refl _ _) rfl _ _ rfl rfl rfl ?_)
              case a1 => first | omega | (simp <;> omega) | fail
              intro v8 w12 hown8 hb12
              obtain ⟨A8, d8, rfl, hd8⟩ := own_formI hown8
              have hz12 := hb12.size
              have hown8' : OwI (w12.alloc (.cells #[.int .i64 s] 3)) w11.heap.size (.slice A8 (L.take j).length d8) (L.take j) := hown8.alloc _
              have hb12' := hb12.alloc hz12 (.cells #[.int .i64 s] 3)
              have hS1 : Hid (Rd (w12.alloc (.cells #[.int .i64 s] 3)) (some ⟨w12.heap.size, 0, none⟩) [(s : Int)]) := Rd.of_block (t := 3) (heap_alloc_new w12 _)
              rw [hT1.out] at hown8'
              try rw [hT1.out]
              have hO8 := Lib.hid hown8'
              have hb12x := Lib.hid hb12'
              clear hown8 hown8' hb12'
              go_wp2_with (at_builtin; refine wpList_append_list _ (W0 := w11) (B := w11.heap.size) (xs := L.take j) (ys := [(s : Int)]) (by unfold OwI; exact hO8.out) hS1.out rfl ?b1 ?b2 hb12x.out rfl _ _ rfl rfl rfl ?_)
              case b1 => rw [hT1.out]; simp <;> omega
              case b2 => simp <;> omega
              intro v9 w13 hown9 hb13
              obtain ⟨A9, d9, rfl, hd9⟩ := own_formI hown9
              have hz13 := hb13.size
              have hD0 := Lib.hid (hRLx.out.below hb13)
              have hO9 := Lib.hid hown9
              have hb13x := Lib.hid hb13
              clear hown9 hb12 hb13
              go_wp2_with (at_builtin; refine wpList_append_list _ (W0 := w11) (B := w11.heap.size) (xs := L.take j ++ [(s : Int)]) (ys := L.drop j) hO9.out (fun h8 => absurd h8 (by have := hD1.out; omega)) hD1.out ?c1 ?c2 hb13x.out rfl _ _ rfl rfl rfl ?_)
              case c1 => rw [List.length_append, hT1.out]; simp <;> omega
              case c2 => exact hz13
              intro v10 w14 hown10 hb14
              have hO10 : Hid (OwI w14 w1.heap.size v10 (L.take j ++ (s : Int) :: L.drop j)) := by
                have h8 := own_base hown10 ((hbr.trans (hb11.mono hbr.size)).size)
                exact h8
              obtain ⟨A10, d10, rfl, hd10⟩ := own_formI hO10.out
              have hOP3 := Lib.hid (hOP.out.ins HV.out.i0 HX.out hz.out hlo.out (fun a h => by have := hlast.out a h; omega))
              have hb14' := hbr.trans ((below_next hb11 hb14).mono hbr.size)
              have hln : (L.take j ++ (s : Int) :: L.drop j).length ≤ s + 1 := by simp; have := HL.out; omega
              clear hown10 hb14
              go_wp2
              go_roundw
              case rel => exact ⟨s + 1, _, A10, d10, by omega, by go_num, rfl, hd10, hln, hO10, hOP3, hb14'⟩
              case measure => simp [intOf] <;> omega
            · skip
              have hT0 : Hid (Rd w11 (some ⟨gB, 0, none⟩) (L.take j)) := hRLx.out.takeL j
              have hT1 : Hid ((L.take j).length = j) := by show _ = _; rw [List.length_take, HL.out]; omega
              have hD1 : Hid ((L.drop j).length = 0) := by show _ = _; have h8 := HL.out; rw [List.length_drop]; omega
              go_wp2_with (at_builtin; refine wpList_append_list w11 (W0 := w11) (B := w11.heap.size) (xs := []) (ys := L.take j) (OwI.nil_ _ _) hT0.out hT1.out ?a1 (Nat.le_refl _) (Below.refl _ _) rfl _ _ rfl rfl rfl ?_)
              case a1 => first | omega | (simp <;> omega) | fail
              intro v8 w12 hown8 hb12
              obtain ⟨A8, d8, rfl, hd8⟩ := own_formI hown8
              have hz12 := hb12.size
              have hown8' : OwI (w12.alloc (.cells #[.int .i64 s] 3)) w11.heap.size (.slice A8 (L.take j).length d8) (L.take j) := hown8.alloc _
              have hb12' := hb12.alloc hz12 (.cells #[.int .i64 s] 3)
              have hS1 : Hid (Rd (w12.alloc (.cells #[.int .i64 s] 3)) (some ⟨w12.heap.size, 0, none⟩) [(s : Int)]) := Rd.of_block (t := 3) (heap_alloc_new w12 _)
              rw [hT1.out] at hown8'
              try rw [hT1.out]
              have hO8 := Lib.hid hown8'
              have hb12x := Lib.hid hb12'
              clear hown8 hown8' hb12'
              go_wp2_with (at_builtin; refine wpList_append_list _ (W0 := w11) (B := w11.heap.size) (xs := L.take j) (ys := [(s : Int)]) (by unfold OwI; exact hO8.out) hS1.out rfl ?b1 ?b2 hb12x.out rfl _ _ rfl rfl rfl ?_)
              case b1 => rw [hT1.out]; simp <;> omega
              case b2 => simp <;> omega
              intro v9 w13 hown9 hb13
              obtain ⟨A9, d9, rfl, hd9⟩ := own_formI hown9
              have hz13 := hb13.size
              have hD0 := Lib.hid (hRLx.out.below hb13)
              have hO9 := Lib.hid hown9
              have hb13x := Lib.hid hb13
              clear hown9 hb12 hb13
              go_wp2_with (at_builtin; refine wpList_append_list _ (W0 := w11) (B := w11.heap.size) (xs := L.take j ++ [(s : Int)]) (ys := L.drop j) hO9.out (fun h8 => absurd h8 (by have := hD1.out; omega)) hD1.out ?c1 ?c2 hb13x.out rfl _ _ rfl rfl rfl ?_)
              case c1 => rw [List.length_append, hT1.out]; simp <;> omega
              case c2 => exact hz13
              intro v10 w14 hown10 hb14
              have hO10 : Hid (OwI w14 w1.heap.size v10 (L.take j ++ (s : Int) :: L.drop j)) := by
                have h8 := own_base hown10 ((hbr.trans (hb11.mono hbr.size)).size)
                exact h8
              obtain ⟨A10, d10, rfl, hd10⟩ := own_formI hO10.out
              have hOP3 := Lib.hid (hOP.out.ins HV.out.i0 HX.out hz.out hlo.out (fun a h => by have := hlast.out a h; omega))
              have hb14' := hbr.trans ((below_next hb11 hb14).mono hbr.size)
              have hln : (L.take j ++ (s : Int) :: L.drop j).length ≤ s + 1 := by simp; have := HL.out; omega
              clear hown10 hb14
              go_wp2
              go_roundw
              case rel => exact ⟨s + 1, _, A10, d10, by omega, by go_num, rfl, hd10, hln, hO10, hOP3, hb14'⟩
              case measure => simp [intOf] <;> omega
    · have hsn : s = n := by omega
      have hF : Hid (Mc.Ord m L) := (show Mc.OP m is m.r.length L by have h8 := hn.out; have e : s = m.r.length := (by omega); rw [← e]; exact hOP.out).done HV.out HX.out HXL.out
      have hO2 := Lib.hid (own_base hO.out hbm.size)
      have hb2 := Lib.hid (hbm.trans (hbr.mono hbm.size))
      go_wp2
      try go_ret
      exact ⟨_, L, rfl, hO2.out, hF, hb2.out⟩
end Go.Proofs.Ytgafpmgdpigliaa
