/-
  The walk of the law MachinesKnown. No statement is proved here.
-/
import Derived.Test.YtiohfflkolopeaaMt1
import Derived.Test.YtiohfflkolopeaaMch
import Derived.Test.YtiohfflkolopeaaMs1
import Derived.Test.YtiohfflkolopeaaMc15
namespace Go.Proofs.Ytiohfflkolopeaa
open Go.RowKit
open Mc (Ed Ma)

namespace Mc
/-- A row of the ring. -/
def rgR (n : Int) (i : Nat) (s : Nat) : List Ed := (List.range i).map fun (j : Nat) => (((s : Int) + 1) % n, ((s : Int) + (j : Int)) % 16)
def rg (n i : Nat) : Ma := ⟨i, 16, (List.range n).map (rgR n i)⟩
theorem rgR_len (n : Int) (i s : Nat) : (rgR n i s).length = i := by simp [rgR]
theorem rgR_at {n : Int} {i s j : Nat} (h : j < i) : (rgR n i s)[j]? = some (((s : Int) + 1) % n, ((s : Int) + (j : Int)) % 16) := by simp [rgR, h]
theorem rg_len (n i : Nat) : (rg n i).r.length = n := by simp [rg]
theorem rg_at {n i s : Nat} (h : s < n) : (rg n i).r[s]? = some (rgR n i s) := by simp [rg, h]
end Mc
abbrev boxG (w : World) : World := w.alloc zM
set_option maxRecDepth 100000 in
set_option maxHeartbeats 4000000 in
theorem ring_any (n i : Nat) (w : World) (n1 : 1 ≤ n) (n2 : n ≤ 100) (i1 : 1 ≤ i) (i2 : i ≤ 100) :
    Calls Try.prog 37 #[.int .i64 n, .int .i64 i] w (BltM w (Mc.rg n i)) := by
  obtain ⟨r0, hr0, hr1, hr2, hr3⟩ := info_parts row_info
  obtain ⟨R, hR⟩ : ∃ R, (Mc.rg n i).r = R := ⟨_, rfl⟩
  have hpost : Hid (∀ e w', (∃ V vs, e = Ending.returned (.agg #[.int .i64 i, .int .i64 16, V]) ∧ Hid (Bld w' w.heap.size V R vs) ∧ Below w.heap.size w w') → BltM w (Mc.rg n i) e w') := fun e w' ⟨V, vs, h1, h2, h3⟩ => ⟨V, vs, h1, by rw [hR]; exact h2, h3⟩
  have hRl : Hid (R.length = n) := by rw [← hR]; exact Mc.rg_len _ _
  have hRat : Hid (∀ s, s < n → R[s]? = some (Mc.rgR n i s)) := fun s hs => by rw [← hR]; exact Mc.rg_at hs
  clear hR
  have hX : Below (w.heap.size + 1) (boxG w) (boxG w) := Below.refl _ _
  go_enter Try.func37, Try.ntmps37
  go_wp2_with fail
  go_loopw [6] (fun v wr => ∃ (s : Nat) (V : Value) (vs : List Value), s ≤ n ∧ v = .int .i64 s ∧ Hid (wr.heap[w.heap.size + 1]? = some (.cells #[.int .i64 i, .int .i64 16, V] 24)) ∧ Hid (Bld wr (w.heap.size + 2) V (R.take s) vs) ∧ Below (w.heap.size + 1) (boxG w) wr) (fun v _ => n - (intOf v).toNat)
  case atStart =>
    refine ⟨0, .slice none 0 0, [], Nat.zero_le _, rfl, ?_, Bld.nil_ _ _, hX.alloc (by simp) _⟩
    have := heap_alloc_new (boxG w) (.cells #[.int .i64 i, .int .i64 16, .slice none 0 0] 24)
    rw [show (boxG w).heap.size = w.heap.size + 1 by simp] at this
    exact this
  case round =>
    clear hX
    obtain ⟨s, V, vs, hs, rfl, hG, hB, hbr⟩ := hrel
    have hts : (R.take s).length = s := by rw [List.length_take]; have := hRl.out; omega
    obtain ⟨A', c', hV, _⟩ := hB.out.rd
    rw [hts] at hV
    subst hV
    have hGm : BxM wr (w.heap.size + 1) i 16 A' s c' := hG.out
    have hGs : w.heap.size + 2 ≤ wr.heap.size := heap_lt hGm
    by_cases hsl : s < n
    · have hsl' : (s : Int) < n := by omega
      go_wp2_with fail
      obtain ⟨wo, rfl⟩ : ∃ wo : World, wo = wr := ⟨_, rfl⟩
      go_loopw [7, 8] (fun u v wr => ∃ (j : Nat) (xs : List Ed), j ≤ i ∧ v = .int .i64 j ∧ wr.ownsRow wo.heap.size 39 2 u xs.length (eC xs) ∧ Hid (xs = (Mc.rgR n i s).take j) ∧ Hid (0 < j → u ≠ .slice none 0 0) ∧ Below wo.heap.size wo wr) (fun _ v _ => i - (intOf v).toNat)
      case atStart => exact ⟨0, [], Nat.zero_le _, rfl, World.ownsRow_nil _ _ _ _, rfl, (fun h => absurd h (by omega)), Below.refl _ _⟩
      case round =>
        obtain ⟨j, xs, hj, rfl, hown, hxs, hnn, hbr2⟩ := hrel
        have hszr := hbr2.size
        by_cases hjl : j < i
        · have hxl : Hid (xs.length ≤ 1000000) := by have := hxs.out; show _ ≤ _; rw [this, List.length_take]; omega
          obtain ⟨X, hX⟩ : ∃ X, ((s : Int) + 1) % (n : Int) = X := ⟨_, rfl⟩
          obtain ⟨Y, hY⟩ : ∃ Y, ((s : Int) + (j : Int)) % 16 = Y := ⟨_, rfl⟩
          have hgo : Hid (xs ++ [(X, Y)] = (Mc.rgR n i s).take (j + 1)) := by
            show _ = _
            rw [List.take_add_one, Mc.rgR_at hjl, hX, hY, ← hxs.out]; rfl
          have hn0 : ((n : Int) == 0) = false := by rw [beq_eq_false_iff_ne]; omega
          have hn0a : ¬ n = 0 := by omega
          have hjl' : (j : Int) < i := by omega
          go_wp2_with fail
          refine (edge_any X Y _).mono ?_
          rintro e w3 ⟨rfl, hb3⟩
          have hown3 := own_below hown hb3
          have hbr3 := below_next hbr2 hb3
          have hsz3 : wo.heap.size ≤ w3.heap.size := hbr3.size
          clear hX hY hown hbr2 hszr hb3
          go_wp2_with (at_builtin; refine wpList_append_edge _ X Y hown3 hxl.out hsz3 hbr3 rfl _ _ rfl rfl rfl ?_)
          intro v1 w1 hown1 hnn1 hbr4
          clear hown3 hnn
          go_wp2
          go_roundw
          case rel => exact ⟨j + 1, xs ++ [(X, Y)], by omega, by go_num, by rw [List.length_append]; exact hown1, hgo, fun _ => hnn1, hbr4⟩
          case measure => simp [intOf]; omega
        · have hje : j = i := by omega
          have hjl' : ¬ (j : Int) < i := by omega
          have hxi : Hid (xs = Mc.rgR n i s) := by
            have h := hxs.out
            rw [List.take_of_length_le (by rw [Mc.rgR_len]; omega)] at h
            exact h
          have hxl : xs.length = i := by rw [hxi.out, Mc.rgR_len]
          rw [hxl] at hown
          have HXL := Lib.hid hxl
          clear hxl
          obtain ⟨gq, cq, rfl, hcq⟩ := edge_form hown (hnn.out (by omega))
          have hbr3 : Below (w.heap.size + 1) (boxG w) wr := hbr.trans (hbr2.mono (by omega))
          have hG2 : BxM wr (w.heap.size + 1) i 16 A' s c' := (hbr2.block _ (by omega)).trans hGm
          have hS1 := Lib.hid (cell_one_new wr (t := 45) (.slice (some ⟨gq, 0, none⟩) i cq))
          have hBr := Lib.hid (hB.out.below hbr2)
          have hown17 := (hBr.out.1.alloc (.cells #[.slice (some ⟨gq, 0, none⟩) i cq] 45))
          rw [hts] at hown17
          have hS2 : Hid (∀ u ∈ ([.slice (some ⟨gq, 0, none⟩) i cq] : List Value), u.oneCell' = true) := fun u hu => by simp at hu; subst hu; rfl
          have hS3 : s + 1 ≤ maxLen := by unfold maxLen; omega
          have hS4 : (s + 1) * 24 ≤ 140737488355328 := by omega
          have hS5 : w.heap.size + 2 ≤ (wr.alloc (.cells #[.slice (some ⟨gq, 0, none⟩) i cq] 45)).heap.size := by simp; omega
          obtain ⟨_, _, g2⟩ := hG2.cells
          go_wp2_with (at_builtin; refine wpList_append_own _ rfl _ _ 22 rfl (w.heap.size + 2) 45 r0 (.slice none 0 0) 1 24 Try.underlying22 hr0 hr1 hr2 hr3 rfl (by decide) _ _ _ rfl hown17 ⟨wr.heap.size, 0, none⟩ 1 1 [.slice (some ⟨gq, 0, none⟩) i cq] rfl rfl hS1.out hS2.out hS3 hS4 hS5 ?_)
          intro v1 w1 hown1 hg1 hnil1
          have hne : some (w.heap.size + 1) ≠ (Value.slice A' s c').ownBlock := fun e => by
            have := (hown17.lt _ e.symm).1
            omega
          have hG3 : BxM w1 (w.heap.size + 1) i 16 A' s c' := by
            show _ = _
            rw [hg1.block (w.heap.size + 1) (by simp; omega) hne, heap_alloc_old wr _ (by omega)]
            exact hG2
          obtain ⟨_, _, g3⟩ := hG3.cells
          obtain ⟨_, _, f3⟩ := hG3.frozen
          have hpush := hBr.out.push (row := xs) (g := gq) (c := cq) (V1 := v1) (w1 := w1) (o := .cells #[.slice (some ⟨gq, 0, none⟩) i cq] 45) (by unfold OwR; rw [HXL.out]; exact own_base hown (by omega)) (by rw [hts, HXL.out]; exact hown1) hg1
          clear hnil1 hown1
          obtain ⟨A1, c1, rfl, hc1, hc1m, _, _⟩ := hpush.rd
          have hl1 : (R.take s ++ [xs]).length = s + 1 := by rw [List.length_append, hts]; rfl
          rw [hl1] at hpush ⊢
          have hset := hpush.kept (grown_setCell w1 ⟨w.heap.size + 1, 2, none⟩ (.slice A1 (s + 1) c1)) (by show w.heap.size + 1 < _; omega)
          have hRs : R.take s ++ [xs] = R.take (s + 1) := by rw [List.take_add_one, hRat.out s hsl, hxi.out]; rfl
          rw [hRs] at hset
          have hset := Lib.hid hset
          have hG4 : Hid ((w1.setCell ⟨w.heap.size + 1, 2, none⟩ (.slice A1 (s + 1) c1)).heap[w.heap.size + 1]? = some (.cells #[.int .i64 i, .int .i64 16, .slice A1 (s + 1) c1] 24)) := by
            have : w1.heap[w.heap.size + 1]? = _ := hG3
            show _ = _
            simp [World.setCell, Array.getElem?_modify, this]
          have hbF : Below (w.heap.size + 1) (boxG w) (w1.setCell ⟨w.heap.size + 1, 2, none⟩ (.slice A1 (s + 1) c1)) :=
            ((hbr3.alloc (by omega) (.cells #[.slice (some ⟨gq, 0, none⟩) i cq] 45)).grown hg1 (by simp; omega) (fun j hj => by have := (hown17.lt _ hj).1; omega)).setCell (p := ⟨w.heap.size + 1, 2, none⟩) (Nat.le_refl (w.heap.size + 1)) _
          clear hown hg1 hpush hRs hl1 hne hG3 hown17 hS1 hS2 hS3 hS4 hS5 hG2 g2
          go_wp2
          go_roundw
          case rel => exact ⟨s + 1, _, _, by omega, by go_num, hG4, hset, hbF⟩
          case measure => simp [intOf]; omega
    · have hsl' : ¬ (s : Int) < n := by omega
      obtain ⟨g0, g1, g2⟩ := hGm.cells
      have hz0 : BxM wr w.heap.size 0 0 none 0 0 := by
        show wr.heap[w.heap.size]? = _
        rw [hbr.block w.heap.size (by omega)]
        exact heap_alloc_new w zM
      obtain ⟨z0, z1, z2⟩ := hz0.cells
      obtain ⟨f0, f1, f2⟩ := hz0.frozen
      have hblk := Lib.hid (hz0.set3 (i' := (i : Int)) (o' := 16) (A' := A') (n' := s) (c' := c'))
      have hk2 := hB.out.set3 (g := w.heap.size) (by omega) (.int .i64 i) (.int .i64 16) (.slice A' s c')
      rw [List.take_of_length_le (by have := hRl.out; omega)] at hk2
      have hk3 := Lib.hid hk2
      have hbf : Below w.heap.size w (set3 wr w.heap.size (.int .i64 i) (.int .i64 16) (.slice A' s c')) := below_set3 (((Below.refl _ _).alloc (Nat.le_refl _) _).trans (hbr.mono (by omega))) (by omega) _ _ _
      clear hk2 hz0
      go_wp2
      obtain ⟨W, hW⟩ : ∃ W, set3 wr w.heap.size (.int .i64 i) (.int .i64 16) (.slice A' s c') = W := ⟨_, rfl⟩
      simp only [hW] at hblk hk3 hbf ⊢
      clear hW
      obtain ⟨e0, e1, e2⟩ := BxM.cells hblk.out
      refine bodyPost_ret (by simp [results, Try.results37, go_sem, e0, e1, e2]; rfl) rfl ?_
      exact hpost.out _ _ ⟨.slice A' s c', vs, rfl, hk3.out.base (by omega), hbf⟩

namespace Mc
/-- The word of the examples. -/
def kw (n : Nat) : List Int := (List.range n).map fun (j : Nat) => (j : Int) % 16
theorem kw_len (n : Nat) : (kw n).length = n := by simp [kw]
theorem kw_snoc (n : Nat) : kw n ++ [(n : Int) % 16] = kw (n + 1) := by simp [kw, List.range_succ]
theorem chk_great : chk (rg 64 16) = 0 := by decide +kernel
theorem chk_65 : chk (rg 65 1) = 3 := by decide +kernel
theorem chk_17 : chk (rg 1 17) = 3 := by decide +kernel
theorem runE_great : runE (rg 64 16) 60 (kw 256) = 0 := by decide +kernel
theorem aftV_great : aftV (rg 64 16) 60 (kw 256) = 60 := by decide +kernel
theorem rg_rows {n i : Nat} : ∀ row ∈ (rg n i).r, row.length = i := fun row h => by
  obtain ⟨s, _, rfl⟩ := List.mem_map.1 h
  exact rgR_len _ _ _
end Mc
/-- Numbers of two bytes that the call itself gathers. -/
def u16s (zs : List Int) : List Value := zs.map (Value.int .u16)
theorem u16s_len (zs : List Int) : (u16s zs).length = zs.length := by simp [u16s]
theorem u16s_snoc (zs : List Int) (z : Int) : u16s zs ++ [.int .u16 z] = u16s (zs ++ [z]) := by simp [u16s]
theorem u16_info : (Try.prog.info? 75).map (fun i => (i.zero, i.size, i.bytes)) = some (some (.int .u16 0), 1, 2) := by kernel_rfl
theorem Rd16.of_own {w : World} {base : Nat} {A : Option Addr} {n c : Nat} {zs : List Int} (h : w.ownsRow base 75 1 (.slice A n c) n (u16s zs)) (hz : ∀ z ∈ zs, 0 ≤ z ∧ z ≤ 65535) : Rd16 w A zs := fun hp => by
  have hn : zs.length = n := by have := h.1; rw [u16s_len] at this; omega
  obtain ⟨g, cap, hv, _, hlt⟩ := h.form (by omega)
  have hA : A = some ⟨g, 0, none⟩ := by injection hv
  subst hA
  refine ⟨g, 0, rfl, hlt, fun k z hk => ⟨?_, hz z (List.mem_of_getElem? hk)⟩⟩
  have := h.cells (g := g) rfl k (.int .u16 z) (by simp [u16s, hk])
  rw [Nat.zero_add]
  rw [Addr.add_lit] at this
  simpa using this
theorem own_slice {w : World} {base n sz : Nat} {t : TypeId} {v : Value} {xs : List Value} (h : w.ownsRow base t sz v n xs) : ∃ A c, v = .slice A n c ∧ n ≤ c := by
  rcases h.2 with ⟨rfl, h0⟩ | ⟨g, cap, cur, rfl, _, _, hc, _⟩
  · exact ⟨none, 0, by rw [h0], by omega⟩
  · exact ⟨_, _, rfl, hc⟩

theorem step_append_lies_g {P : Program} {w : World} {ops : Array Oper} {o : Oper} {a : Act} {K : Act → World → Prop} {Q : Exit → Act → World → Prop} {E : Prop} (hw : Region.wanted o (yielded ops a.tmps) = true) (s x : Operand) (t : TypeId)
    (ho : o.op = .call { callee := .builtin .append, args := #[s, x], argTypes := #[t, t] })
    (base : Nat) (e : TypeId) (i : TypeInfo) (z : Value) (size bytes : Nat) (ht : P.underlying t = some (.slice e)) (hi : P.info? e = some i) (hz : i.zero = some z)
    (hsize : i.size = size) (hby : i.bytes = bytes) (hzs : z.cells.size = size) (hsz : 0 < size)
    (v : Value) (n : Nat) (xs : List Value) (hs : a.eval s = v) (hown : w.ownsRow base e size v n xs)
    (ad : Addr) (m c : Nat) (news : List Value) (hx : a.eval x = .slice (some ad) m c) (hl : news.length = m * size) (hnews : ∀ j u, news[j]? = some u → w.cell? (ad.add j) = some u) (h1 : ∀ u ∈ news, u.oneCell' = true)
    (hm : 0 < m) (h63 : n + m ≤ maxLen) (hbytes : (n + m) * bytes ≤ 140737488355328) (hbase : base ≤ w.heap.size) (H : Nat) (hH : w.heap.size = H)
    (h : ∀ g cap w', w'.ownsRow base e size (.slice (some ⟨g, 0, none⟩) (n + m) cap) (n + m) (xs ++ news) → w.grownBy w' v.ownBlock → (v.ownBlock = some g ∨ g = H) → g < w'.heap.size → K (a.put o.dst (.slice (some ⟨g, 0, none⟩) (n + m) cap)) w') :
    if Region.wanted o (yielded ops a.tmps) = true then Oper.wp P o a w K Q else E := by
  rw [if_pos hw]
  exact wp_append_lies w s x t ho base e i z size bytes ht hi hz hsize hby hzs hsz v n xs hs hown ad m c news hx hl hnews h1 hm h63 hbytes hbase H hH h
theorem u16_bd (r : Int) : 0 ≤ IntKind.u16.wrap r ∧ IntKind.u16.wrap r ≤ 65535 := by
  unfold IntKind.wrap
  simp [IntKind.bits, IntKind.signed]
  omega
theorem u8_bd (r : Int) : 0 ≤ IntKind.u8.wrap r ∧ IntKind.u8.wrap r ≤ 255 := by
  rw [IntKind.wrap_u8]
  omega
theorem rd8_lit (w : World) (zs : List Int) (hz : ∀ z ∈ zs, 0 ≤ z ∧ z ≤ 255) : Rd8 (w.alloc (.cells (zs.map (Value.int .u8)).toArray 5)) (some ⟨w.heap.size, 0, none⟩) zs := fun _ => by
  refine ⟨w.heap.size, 0, rfl, by simp, fun k hk => ?_⟩
  rw [World.cell?_alloc_at _ _ _ _ rfl, Nat.zero_add]
  have := hz zs[k] (List.getElem_mem hk)
  refine ⟨?_, by simpa [List.getElem?_eq_getElem hk] using this⟩
  simp [List.getElem?_eq_getElem hk]
theorem kOf (a b d : Int) (p : Bool) (A : Option Addr) (n c : Nat) (es : List Int) (w : World) (hr : Rd16 w A es) (hn : es.length = n) (hl : n ≤ 1000) (ha : 0 ≤ a ∧ a ≤ 255) (hb : 0 ≤ b ∧ b ≤ 255) (hd : 0 ≤ d ∧ d ≤ 255) :
    Calls Try.prog 28 #[.agg #[.int .u8 a, .int .u8 b, .int .u8 d, .bool p, .slice A n c]] w fun e w' => ∃ (i o : Int) (B : Option Addr) (m k : Nat) (rs : List (List Ed)), e = .returned (.agg #[.int .i64 i, .int .i64 o, .slice B m k]) ∧ RdR w' B rs ∧ Hid (rs.length = m) ∧ Below w.heap.size w w' := by
  subst hn
  obtain ⟨n, hn⟩ : ∃ n : Nat, 1 + a % 6 = n := ⟨(1 + a % 6).toNat, by omega⟩
  obtain ⟨i, hi⟩ : ∃ i : Nat, 1 + b % 3 = i := ⟨(1 + b % 3).toNat, by omega⟩
  obtain ⟨o, ho⟩ : ∃ o : Nat, 1 + d % 3 = o := ⟨(1 + d % 3).toNat, by omega⟩
  refine (mof_at a b d p A c es n i o w hr (by omega) ha hb hd hn hi ho).mono ?_
  rintro e w' ⟨B, k, rfl, hrd, hbl⟩
  exact ⟨i, o, B, n, k, _, rfl, hrd, Mc.mkN_len _ _ _ _ _, hbl⟩
theorem ring_at (n i : Nat) (N I : Int) (w : World) (hN : (n : Int) = N) (hI : (i : Int) = I) (n1 : 1 ≤ n) (n2 : n ≤ 100) (i1 : 1 ≤ i) (i2 : i ≤ 100) :
    Calls Try.prog 37 #[.int .i64 N, .int .i64 I] w fun e w' => ∃ B k, e = .returned (.agg #[.int .i64 I, .int .i64 16, .slice B n k]) ∧ RdR w' B (Mc.rg n i).r ∧ Below w.heap.size w w' := by
  subst hN hI
  refine (ring_any n i w n1 n2 i1 i2).mono ?_
  rintro e w' ⟨V, vs, rfl, hB, hbl⟩
  obtain ⟨B, k, rfl, _, _, _, hrd⟩ := hB.out.rd
  rw [Mc.rg_len]
  exact ⟨B, k, rfl, hrd, hbl⟩
section
variable {E : World → Prop} (P : Pm E)
include P
theorem kCheck (i o : Int) (rs : List (List Ed)) (A : Option Addr) (n c : Nat) (p0 p1 : Int) (U : Option Addr) (k d : Nat) (ws : List Int) (w : World) (he : E w) (hr : RdR w A rs) (hw : Rd w U ws) (hn : rs.length = n) (hk : ws.length = k) (hkd : k ≤ d) :
    Calls Try.prog 3 #[.agg #[.int .i64 i, .int .i64 o, .slice A n c], .agg #[.int .i64 p0, .int .i64 p1], .slice U k d] w fun e w' => e = .returned (.bool true) ∧ Below w.heap.size w w' := by
  subst hn hk
  exact lawCheck_walk P i o rs A c p0 p1 U d ws w he hr hw hkd
theorem kShape (a b d : Int) (p : Bool) (A : Option Addr) (n c : Nat) (es : List Int) (w : World) (he : E w) (hr : Rd16 w A es) (hn : es.length = n) (hl : n ≤ 1000)
    (ha : 0 ≤ a ∧ a ≤ 255) (hb : 0 ≤ b ∧ b ≤ 255) (hd : 0 ≤ d ∧ d ≤ 255) :
    Calls Try.prog 4 #[.agg #[.int .u8 a, .int .u8 b, .int .u8 d, .bool p, .slice A n c]] w fun e w' => e = .returned (.bool true) ∧ Below w.heap.size w w' := by
  subst hn
  exact lawShape_walk P a b d p A c es w he hr (by omega) ha hb hd
theorem kRun (a b d : Int) (p : Bool) (A B : Option Addr) (n c m k : Nat) (es ws : List Int) (fr : Int) (w : World) (he : E w) (hr : Rd16 w A es) (hw : Rd8 w B ws) (hn : es.length = n) (hl : n ≤ 1000) (hm : ws.length = m) (hl2 : m ≤ 1000)
    (ha : 0 ≤ a ∧ a ≤ 255) (hb : 0 ≤ b ∧ b ≤ 255) (hd : 0 ≤ d ∧ d ≤ 255) (hf : 0 ≤ fr ∧ fr ≤ 255) :
    Calls Try.prog 5 #[.agg #[.int .u8 a, .int .u8 b, .int .u8 d, .bool p, .slice A n c], .agg #[.slice B m k], .int .u8 fr] w fun e w' => e = .returned (.bool true) ∧ Below w.heap.size w w' := by
  subst hn hm
  exact lawRun_walk P a b d p A B c k es ws fr w he hr hw (by omega) (by omega) ha hb hd hf
theorem kSplit (a b d : Int) (p : Bool) (A B1 B2 : Option Addr) (n c m1 m2 k1 k2 : Nat) (es ws1 ws2 : List Int) (fr : Int) (w : World) (he : E w) (hr : Rd16 w A es) (hw1 : Rd8 w B1 ws1) (hw2 : Rd8 w B2 ws2) (hn : es.length = n) (hl : n ≤ 1000) (hm1 : ws1.length = m1) (hl1 : m1 ≤ 1000) (hm2 : ws2.length = m2) (hl2 : m2 ≤ 1000)
    (ha : 0 ≤ a ∧ a ≤ 255) (hb : 0 ≤ b ∧ b ≤ 255) (hd : 0 ≤ d ∧ d ≤ 255) (hf : 0 ≤ fr ∧ fr ≤ 255) :
    Calls Try.prog 6 #[.agg #[.int .u8 a, .int .u8 b, .int .u8 d, .bool p, .slice A n c], .agg #[.slice B1 m1 k1, .slice B2 m2 k2], .int .u8 fr] w fun e w' => e = .returned (.bool true) ∧ Below w.heap.size w w' := by
  subst hn hm1 hm2
  exact lawSplit_walk P a b d p A B1 B2 c k1 k2 es ws1 ws2 fr w he hr hw1 hw2 (by omega) (by omega) (by omega) ha hb hd hf
theorem kWith (a b d : Int) (p : Bool) (A : Option Addr) (n c : Nat) (es : List Int) (p0 p1 tx ty : Int) (w : World) (he : E w) (hr : Rd16 w A es) (hn : es.length = n) (hl : n ≤ 1000)
    (ha : 0 ≤ a ∧ a ≤ 255) (hb : 0 ≤ b ∧ b ≤ 255) (hd : 0 ≤ d ∧ d ≤ 255) (hp0 : 0 ≤ p0 ∧ p0 ≤ 255) (hp1 : 0 ≤ p1 ∧ p1 ≤ 255) :
    Calls Try.prog 7 #[.agg #[.int .u8 a, .int .u8 b, .int .u8 d, .bool p, .slice A n c], .agg #[.int .u8 p0, .int .u8 p1], .agg #[.int .i64 tx, .int .i64 ty]] w fun e w' => e = .returned (.bool true) ∧ Below w.heap.size w w' := by
  subst hn
  exact lawWith_walk P a b d p A c es p0 p1 tx ty w he hr (by omega) ha hb hd hp0 hp1
theorem kSame (a b d : Int) (p : Bool) (A : Option Addr) (n c : Nat) (es : List Int) (a' b' d' : Int) (p' : Bool) (A' : Option Addr) (n' c' : Nat) (es' : List Int) (ri ro : Int) (X : Option Addr) (m cx : Nat) (rs : List (List Ed)) (w : World)
    (he : E w) (hr : Rd16 w A es) (hn : es.length = n) (hl : n ≤ 1000) (hr' : Rd16 w A' es') (hn' : es'.length = n') (hl' : n' ≤ 1000) (hx : RdR w X rs) (hm : rs.length = m)
    (ha : 0 ≤ a ∧ a ≤ 255) (hb : 0 ≤ b ∧ b ≤ 255) (hd : 0 ≤ d ∧ d ≤ 255) (ha' : 0 ≤ a' ∧ a' ≤ 255) (hb' : 0 ≤ b' ∧ b' ≤ 255) (hd' : 0 ≤ d' ∧ d' ≤ 255) :
    Calls Try.prog 8 #[.agg #[.int .u8 a, .int .u8 b, .int .u8 d, .bool p, .slice A n c], .agg #[.int .u8 a', .int .u8 b', .int .u8 d', .bool p', .slice A' n' c'], .agg #[.int .i64 ri, .int .i64 ro, .slice X m cx]] w fun e w' => e = .returned (.bool true) ∧ Below w.heap.size w w' := by
  subst hn hn' hm
  exact lawSame_walk P a b d p A c es a' b' d' p' A' c' es' ri ro X cx rs w he hr (by omega) hr' (by omega) hx ha hb hd ha' hb' hd'
end

set_option maxRecDepth 100000 in
set_option maxHeartbeats 4000000 in
theorem lawKnown_walk {E : World → Prop} (P : Pm E) (w : World) (he : E w) :
    Calls Try.prog 9 #[] w fun e w' => e = .returned (.bool true) ∧ Below w.heap.size w w' := by
  obtain ⟨i0, hi0, hz0, hz1, hz2⟩ := info_parts int_info
  have C16 := fun B k w he hr => P.check 16 16 (Mc.rg 64 16).r B 64 k w he hr (Mc.rg_len 64 16) (by decide) (fun row h => by rw [Mc.rg_rows row h]; decide)
  have C65 := fun B k w he hr => P.check 1 16 (Mc.rg 65 1).r B 65 k w he hr (Mc.rg_len 65 1) (by decide) (fun row h => by rw [Mc.rg_rows row h]; decide)
  have C17 := fun B k w he hr => P.check 17 16 (Mc.rg 1 17).r B 1 k w he hr (Mc.rg_len 1 17) (by decide) (fun row h => by rw [Mc.rg_rows row h]; decide)
  have CAf := fun B k U d w he hr hw => P.after 16 16 60 (Mc.rg 64 16).r (Mc.kw 256) B U 64 k 256 d w he hr hw (Mc.rg_len 64 16) (by decide) (fun row h => by rw [Mc.rg_rows row h]; decide) (Mc.kw_len 256) (by decide)
  rw [show Mc.chk ⟨16, 16, (Mc.rg 64 16).r⟩ = 0 from Mc.chk_great] at C16
  rw [show Mc.chk ⟨1, 16, (Mc.rg 65 1).r⟩ = 3 from Mc.chk_65] at C65
  rw [show Mc.chk ⟨17, 16, (Mc.rg 1 17).r⟩ = 3 from Mc.chk_17] at C17
  rw [show Mc.aftV ⟨16, 16, (Mc.rg 64 16).r⟩ 60 (Mc.kw 256) = 60 from Mc.aftV_great, show Mc.runE ⟨16, 16, (Mc.rg 64 16).r⟩ 60 (Mc.kw 256) = 0 from Mc.runE_great] at CAf
  have s0 := MK.start he
  clear he
  go_enter Try.func9, Try.ntmps9
  go_wp2_with fail
  refine (ring_at 64 16 64 16 _ rfl rfl (by decide) (by decide) (by decide) (by decide)).mono ?_
  rintro e w1 ⟨B, cB, rfl, hrd, hbl⟩
  have s1 := (((s0.next P hbl).putR hrd).alloc P (.cells #[.int .i64 16, .int .i64 16, .slice B 64 cB] 24)).putB (g := w1.heap.size) (heap_alloc_new w1 _)
  clear s0 hrd hbl
  go_wp2_with fail
  obtain ⟨w2, hw2⟩ : ∃ W, w1.alloc (.cells #[.int .i64 16, .int .i64 16, .slice B 64 cB] 24) = W := ⟨_, rfl⟩
  rw [hw2] at s1 ⊢
  clear hw2
  go_loopw [2, 3] (fun v i wr => ∃ k : Nat, k ≤ 256 ∧ i = .int .i64 k ∧ Hid (wr.ownsRow w2.heap.size 3 1 v k (ints (Mc.kw k))) ∧ Below w2.heap.size w2 wr) (fun _ i _ => 256 - (intOf i).toNat)
  case atStart => exact ⟨0, by omega, rfl, World.ownsRow_nil w2 _ _ _, Below.refl _ _⟩
  case round =>
    obtain ⟨k, hk, rfl, hown0, hbr⟩ := hrel
    have hown := hown0.out
    by_cases hlt : k < 256
    · have hlt' : decide ((k : Int) < 256) = true := by simp; omega
      have hsz := hbr.size
      obtain ⟨z, hz⟩ : ∃ z, (k : Int) % 16 = z := ⟨_, rfl⟩
      have HZ := Lib.hid hz
      have h1 := Lib.hid (cell_one_new wr (t := 3) (.int .i64 z))
      have h2 : Hid (∀ u ∈ ([.int .i64 z] : List Value), u.oneCell' = true) := fun u hu => by simp at hu; subst hu; rfl
      have h3 : k + 1 ≤ maxLen := by unfold maxLen; omega
      have h4 : (k + 1) * 8 ≤ 140737488355328 := by omega
      have h5 : w2.heap.size ≤ (wr.alloc (.cells #[.int .i64 z] 3)).heap.size := by simp; omega
      have hownA := hown.alloc (.cells #[.int .i64 z] 3)
      go_wp2_with (at_builtin; refine wpList_append_own _ rfl _ _ 26 rfl w2.heap.size 3 i0 (.int .i64 0) 1 8 Try.underlying26 hi0 hz0 hz1 hz2 rfl (by decide) _ _ _ rfl hownA ⟨wr.heap.size, 0, none⟩ 1 1 [.int .i64 z] rfl rfl h1.out h2.out h3 h4 h5 ?_)
      intro v1 w3 hown1 hg1 _
      obtain ⟨hown2, hbr2⟩ := own_step hbr hsz hown hown1 hg1
      rw [← HZ.out, Mc.kw_snoc] at hown2
      have hown3 := Lib.hid hown2
      clear hown1 hg1 hown hownA h1 h2 h3 h4 h5 hown2 hown0 hz
      go_wp2
      go_roundw
      case rel => exact ⟨k + 1, by omega, by go_num, hown3, hbr2⟩
      case measure => simp [intOf]; omega
    · have hlt' : decide ((k : Int) < 256) = false := by simp; omega
      obtain rfl : k = 256 := by omega
      obtain ⟨U, d, rfl, hd⟩ := own_slice hown
      have s2 := (s1.next P hbr).putL (Rd.of_own hown)
      have hE2 := s1.1
      have HR := Lib.hid (show RdR w2 B (Mc.rg 64 16).r from s1.get 1 rfl)
      have hG2 : BxM w2 w1.heap.size 16 16 B 64 cB := s1.get 0 rfl
      have HKS : Hid (∀ W : World, Below w2.heap.size w2 W → (W.cell? ⟨w1.heap.size, 0, none⟩ = some (.int .i64 16) ∧ W.cell? ⟨w1.heap.size, 1, none⟩ = some (.int .i64 16) ∧ W.cell? ⟨w1.heap.size, 2, none⟩ = some (.slice B 64 cB))) := fun W hW => (hG2.to hW).cells
      clear hlt hlt' hown0 hG2
      obtain ⟨b0, b1, b2⟩ := BxM.cells (s2.get 1 rfl)
      go_wp2_with fail
      clear b0 b1 b2
      refine (CAf B cB U d _ s2.1 (s2.get 2 rfl) (s2.get 0 rfl)).mono ?_
      rintro e w4 ⟨rfl, hbl⟩
      have hOw := Lib.hid (own_below hown hbl)
      have hb4 := below_next hbr hbl
      have HW := Lib.hid (Rd.of_own hOw.out)
      have hsz4 : w2.heap.size ≤ w4.heap.size := hb4.size
      clear s2 hown hbr hbl CAf
      have R65 := fun w => ring_at 65 1 65 1 w rfl rfl (by decide) (by decide) (by decide) (by decide)
      have R17 := fun w => ring_at 1 17 1 17 w rfl rfl (by decide) (by decide) (by decide) (by decide)
      have KC1 := fun w he hr hw => kCheck P 16 16 (Mc.rg 64 16).r B 64 cB 63 15 U 256 d (Mc.kw 256) w he hr hw (Mc.rg_len 64 16) (Mc.kw_len 256) hd
      have KC2 := fun U d hd w he hr hw => kCheck P 16 16 (Mc.rg 64 16).r B 64 cB 64 0 U 257 d (Mc.kw 256 ++ [0]) w he hr hw (Mc.rg_len 64 16) (by rw [List.length_append, Mc.kw_len]; rfl) hd
      have KC3 := fun w he => kCheck P 0 0 [] none 0 0 0 0 none 0 0 [] w he RdR.nil_ Rd.nil_ rfl rfl (Nat.le_refl _)
      go_upto_region 8 with fail
      go_cut [70] from 12 to 69 (fun v wx => v = .bool false ∧ Below w2.heap.size w2 wx)
      case first =>
        go_region_held3 (fun W => W.cell? ⟨w1.heap.size, 0, none⟩ = some (.int .i64 16) ∧ W.cell? ⟨w1.heap.size, 1, none⟩ = some (.int .i64 16) ∧ W.cell? ⟨w1.heap.size, 2, none⟩ = some (.slice B 64 cB))
          ((refine HKS.out _ ?_; repeat (first | assumption | (with_reducible (first | refine bA ?_ _ | refine bD ?_ | exact Below.refl _ _ | refine below_next ?_ (by assumption))))))
          (first
            | (go_at_call 16
               (with_reducible refine (C16 B cB _ (P.keep hE2 (by repeat (first | assumption | (with_reducible (first | refine bA ?_ _ | refine bD ?_ | exact Below.refl _ _ | refine below_next ?_ (by assumption)))))) (HR.out.below (by repeat (first | assumption | (with_reducible (first | refine bA ?_ _ | refine bD ?_ | exact Below.refl _ _ | refine below_next ?_ (by assumption))))))).mono ?_)
               rintro e wA ⟨rfl, hbA⟩
               dsimp only)
            | (go_at_call 37
               (with_reducible refine (R65 _).mono ?_)
               rintro e wB ⟨B65, k65, rfl, hr65, hbB⟩
               dsimp only)
            | (go_at_call 16
               (with_reducible refine (C65 B65 k65 _ (P.keep hE2 (by repeat (first | assumption | (with_reducible (first | refine bA ?_ _ | refine bD ?_ | exact Below.refl _ _ | refine below_next ?_ (by assumption)))))) hr65).mono ?_)
               rintro e wC ⟨rfl, hbC⟩
               dsimp only)
            | (go_at_call 37
               (with_reducible refine (R17 _).mono ?_)
               rintro e wD ⟨B17, k17, rfl, hr17, hbD⟩
               dsimp only)
            | (go_at_call 16
               (with_reducible refine (C17 B17 k17 _ (P.keep hE2 (by repeat (first | assumption | (with_reducible (first | refine bA ?_ _ | refine bD ?_ | exact Below.refl _ _ | refine below_next ?_ (by assumption)))))) hr17).mono ?_)
               rintro e wE ⟨rfl, hbE⟩
               have hb4E : Below w4.heap.size w4 wE := below_next (below_next (below_next (below_next (below_next (bD (Below.refl w4.heap.size w4)) hbA) hbB) hbC) hbD) hbE
               dsimp only)
            | (go_at_call 3
               (with_reducible refine (KC1 _ (P.keep hE2 (by repeat (first | assumption | (with_reducible (first | refine bA ?_ _ | refine bD ?_ | exact Below.refl _ _ | refine below_next ?_ (by assumption)))))) (HR.out.below (by repeat (first | assumption | (with_reducible (first | refine bA ?_ _ | refine bD ?_ | exact Below.refl _ _ | refine below_next ?_ (by assumption)))))) (HW.out.below hb4E)).mono ?_)
               rintro e wF ⟨rfl, hbF⟩
               have hbF2 : Below w2.heap.size w2 wF := below_next hb4 (below_next hb4E hbF)
               have hOwF := own_below hOw.out (below_next hb4E hbF)
               have hownA := hOwF.alloc (.cells #[.int .i64 0] 3)
               have T1 := Lib.hid (cell_one_new wF (t := 3) (.int .i64 0))
               have T2 : Hid (∀ u ∈ ([.int .i64 0] : List Value), u.oneCell' = true) := fun u hu => by simp at hu; subst hu; rfl
               have T3 : 256 + 1 ≤ maxLen := by unfold maxLen; omega
               have T4 : (256 + 1) * 8 ≤ 140737488355328 := by omega
               have T5 : w2.heap.size ≤ (wF.alloc (.cells #[.int .i64 0] 3)).heap.size := by have := hbF2.size; simp; omega
               dsimp only)
            | (refine step_append_lies_g (by rfl) (.tmp 59) (.tmp 60) 26 rfl w2.heap.size 3 i0 (.int .i64 0) 1 8 Try.underlying26 hi0 hz0 hz1 hz2 rfl (by decide) (.slice U 256 d) 256 (ints (Mc.kw 256)) (by simp [Act.eval]) hownA ⟨wF.heap.size, 0, none⟩ 1 1 [.int .i64 0] (by simp [Act.eval]) rfl T1.out T2.out (by decide) T3 T4 T5 _ rfl ?_
               intro g cap wG hown1 hg1 hat1 hlt1
               have hbG : Below w2.heap.size w2 wG := (hbF2.alloc hbF2.size _).grown hg1 T5 (fun j hj => (hOwF.lt j hj).1)
               have hrG : Rd wG (some ⟨g, 0, none⟩) (Mc.kw 256 ++ [0]) := Rd.of_own (by rw [← ints_snoc]; exact hown1)
               have hcap : 257 ≤ cap := by obtain ⟨_, _, e, h⟩ := own_slice hown1; injection e with _ _ e; omega)
            | (go_at_call 3
               (with_reducible refine (KC2 (some ⟨g, 0, none⟩) cap hcap _ (P.keep hE2 hbG) (HR.out.below hbG) hrG).mono ?_)
               rintro e wH ⟨rfl, hbH⟩
               dsimp only)
            | (go_at_call 3
               (with_reducible refine (KC3 _ (P.keep hE2 (by repeat (first | assumption | (with_reducible (first | refine bA ?_ _ | refine bD ?_ | exact Below.refl _ _ | refine below_next ?_ (by assumption))))))).mono ?_)
               rintro e wI ⟨rfl, hbI⟩
               dsimp only)
            | fail)
        go_wp2_with fail
        go_meet
        exact ⟨rfl, below_next (below_next hbG hbH) hbI⟩
      case rest =>
      obtain ⟨rfl, hbc⟩ := hcut
      have s4 := s1.next P hbc
      clear s1 hbc hOw hb4 HW hsz4 HKS HR hE2 R65 R17 KC1 KC2 KC3 C16 C65 C17 hd
      obtain ⟨j0, hj0, hy0, hy1, hy2⟩ := info_parts u16_info
      go_wp2_with fail
      go_loopw [6, 7] (fun kv nv wr => ∃ (k : Int) (n : Nat), n ≤ 60 ∧ nv = .int .i64 n ∧ kv = .int .i64 k ∧ 0 ≤ k ∧ k < 100003 ∧ Below wc.heap.size wc wr) (fun _ nv _ => 60 - (intOf nv).toNat)
      case atStart => exact ⟨1, 0, by omega, rfl, rfl, by omega, by omega, Below.refl _ _⟩
      case round =>
        obtain ⟨k, n, hn, rfl, rfl, hk0, hk1, hbr⟩ := hrel
        by_cases hn60 : n < 60
        · have hlt' : decide ((n : Int) < 60) = true := by simp; omega
          have hlt2 : (n : Int) < 60 := by omega
          go_wp2_with fail
          obtain ⟨wo, rfl⟩ : ∃ wo : World, wo = wr := ⟨_, rfl⟩
          go_loopw [6, 8, 9] (fun kv lv iv wr => ∃ (k : Int) (j : Nat) (zs : List Int), j ≤ 18 ∧ iv = .int .i64 j ∧ kv = .int .i64 k ∧ 0 ≤ k ∧ k < 100003 ∧ Hid (wr.ownsRow wo.heap.size 75 1 lv j (u16s zs)) ∧ Hid (∀ z ∈ zs, 0 ≤ z ∧ z ≤ 65535) ∧ Below wo.heap.size wo wr) (fun _ _ iv _ => 18 - (intOf iv).toNat)
          case atStart => exact ⟨k, 0, [], by omega, rfl, rfl, hk0, hk1, World.ownsRow_nil _ _ _ _, (fun z h => by simp at h), Below.refl _ _⟩
          case round =>
            obtain ⟨q, j, zs, hj, rfl, rfl, hq0, hq1, hown0, hzs, hbr2⟩ := hrel
            have hown := hown0.out
            by_cases hjl : j < 18
            · have hjl' : decide ((j : Int) < 18) = true := by simp; omega
              obtain ⟨r, hr, hr0, hr1⟩ : ∃ r, (q * 31 + 7 * (j : Int) + 11) % 100003 = r ∧ 0 ≤ r ∧ r < 100003 := ⟨_, rfl, by omega, by omega⟩
              obtain ⟨z, hz, hz01⟩ : ∃ z, IntKind.u16.wrap r = z ∧ Hid (0 ≤ z ∧ z ≤ 65535) := ⟨_, rfl, u16_bd r⟩
              have hsz := hbr2.size
              have h1 := Lib.hid (cell_one_new wr (t := 75) (.int .u16 z))
              have h2 : Hid (∀ u ∈ ([.int .u16 z] : List Value), u.oneCell' = true) := fun u hu => by simp at hu; subst hu; rfl
              have h3 : j + 1 ≤ maxLen := by unfold maxLen; omega
              have h4 : (j + 1) * 2 ≤ 140737488355328 := by omega
              have h5 : wo.heap.size ≤ (wr.alloc (.cells #[.int .u16 z] 75)).heap.size := by simp; omega
              have hownA := hown.alloc (.cells #[.int .u16 z] 75)
              go_wp2_with (at_builtin; refine wpList_append_own _ rfl _ _ 55 rfl wo.heap.size 75 j0 (.int .u16 0) 1 2 Try.underlying55 hj0 hy0 hy1 hy2 rfl (by decide) _ _ _ rfl hownA ⟨wr.heap.size, 0, none⟩ 1 1 [.int .u16 z] rfl rfl h1.out h2.out h3 h4 h5 ?_)
              intro v1 w5 hown1 hg1 _
              have hbr3 : Below wo.heap.size wo w5 := (hbr2.alloc hsz _).grown hg1 h5 (fun j hj => (hown.lt j hj).1)
              rw [u16s_snoc] at hown1
              have hown3 := Lib.hid hown1
              have hzs2 : Hid (∀ y ∈ zs ++ [z], 0 ≤ y ∧ y ≤ 65535) := fun y hy => by
                rcases List.mem_append.1 hy with h | h
                · exact hzs.out y h
                · simp at h; subst h; exact hz01.out
              clear hown1 hg1 hown hownA h1 h2 h3 h4 h5 hown0 hz
              go_wp2
              go_roundw
              case rel => exact ⟨r, j + 1, _, by omega, by go_num, rfl, hr0, hr1, hown3, hzs2, hbr3⟩
              case measure => simp [intOf]; omega
            · have hjl' : decide ((j : Int) < 18) = false := by simp; omega
              obtain rfl : j = 18 := by omega
              obtain ⟨Ls, cl, rfl, hcl⟩ := own_slice hown
              have s5 := (s4.next P (below_next hbr hbr2)).put (P := fun w => Rd16 w Ls zs) (fun _ _ h hb => h.below hb) (Rd16.of_own hown hzs.out)
              have HZL : Hid (zs.length = 18) := by have := hown.1; rw [u16s_len] at this; exact this
              have hbW := below_next hbr hbr2
              clear hown hown0 hjl hjl' hbr hbr2 s4
              obtain ⟨n3, hn3, m3⟩ : ∃ m, (n : Int) / 3 = m ∧ Hid (0 ≤ m ∧ m ≤ 255) := ⟨_, rfl, by show _ ∧ _; omega⟩
              obtain ⟨n2, hn2, m2⟩ : ∃ m, (n : Int) / 2 = m ∧ Hid (0 ≤ m ∧ m ≤ 255) := ⟨_, rfl, by show _ ∧ _; omega⟩
              obtain ⟨pb, hpb⟩ : ∃ b, ((n : Int) % 2 == 0) = b := ⟨_, rfl⟩
              obtain ⟨k8, hk8, m8⟩ : ∃ m, q % 256 = m ∧ Hid (0 ≤ m ∧ m ≤ 255) := ⟨_, rfl, by show _ ∧ _; omega⟩
              obtain ⟨k7, hk7, m7⟩ : ∃ m, q / 7 % 256 = m ∧ Hid (0 ≤ m ∧ m ≤ 255) := ⟨_, rfl, by show _ ∧ _; omega⟩
              have mn : Hid (0 ≤ (n : Int) ∧ (n : Int) ≤ 255) := by show _ ∧ _; omega
              have s6 := (((s5.alloc P (.cells #[.int .u8 n, .int .u8 n3, .int .u8 n2, .bool pb, .slice Ls 18 cl] 57)).putO (g := wr.heap.size) (heap_alloc_new wr _)).alloc P (.cells #[.int .u8 k8, .int .u8 n, .int .u8 1, .int .u8 2, .int .u8 k7] 5)).put (P := fun w => Rd8 w (some ⟨wr.heap.size + 1, 0, none⟩) [k8, n, 1, 2, k7]) (fun _ _ h hb => h.below hb) (by
                have h := rd8_lit (wr.alloc (.cells #[.int .u8 n, .int .u8 n3, .int .u8 n2, .bool pb, .slice Ls 18 cl] 57)) [k8, n, 1, 2, k7] (fun z hz => by
                  have := m8.out; have := m7.out; have := mn.out
                  simp at hz
                  rcases hz with rfl | rfl | rfl | rfl | rfl <;> omega)
                rw [World.size_alloc] at h
                exact h)
              have s7 := (s6.alloc P (.cells #[.slice (some ⟨wr.heap.size + 1, 0, none⟩) 5 5] 63)).putO (g := wr.heap.size + 1 + 1) (o := .cells #[.slice (some ⟨wr.heap.size + 1, 0, none⟩) 5 5] 63) (by
                have h := heap_alloc_new ((wr.alloc (.cells #[.int .u8 n, .int .u8 n3, .int .u8 n2, .bool pb, .slice Ls 18 cl] 57)).alloc (.cells #[.int .u8 k8, .int .u8 n, .int .u8 1, .int .u8 2, .int .u8 k7] 5)) (.cells #[.slice (some ⟨wr.heap.size + 1, 0, none⟩) 5 5] 63)
                rw [World.size_alloc, World.size_alloc] at h
                exact h)
              have hbX : Below wc.heap.size wc (((wr.alloc (.cells #[.int .u8 n, .int .u8 n3, .int .u8 n2, .bool pb, .slice Ls 18 cl] 57)).alloc (.cells #[.int .u8 k8, .int .u8 n, .int .u8 1, .int .u8 2, .int .u8 k7] 5)).alloc (.cells #[.slice (some ⟨wr.heap.size + 1, 0, none⟩) 5 5] 63)) := bA (bA (bA hbW _) _) _
              clear s5 s6 hbW
              go_wp2_with fail
              obtain ⟨W, hW⟩ : ∃ W, ((wr.alloc (.cells #[.int .u8 n, .int .u8 n3, .int .u8 n2, .bool pb, .slice Ls 18 cl] 57)).alloc (.cells #[.int .u8 k8, .int .u8 n, .int .u8 1, .int .u8 2, .int .u8 k7] 5)).alloc (.cells #[.slice (some ⟨wr.heap.size + 1, 0, none⟩) 5 5] 63) = W := ⟨_, rfl⟩
              rw [hW] at s7 hbX ⊢
              clear hW
              obtain ⟨H, hH⟩ : ∃ H, wr.heap.size + 1 + 1 = H := ⟨_, rfl⟩
              obtain ⟨Y, hY⟩ : ∃ Y, wr.heap.size + 1 = Y := ⟨_, rfl⟩
              rw [hH, hY] at s7
              rw [hH, hY]
              clear hH hY
              have hE7 := s7.1
              have HL := Lib.hid (show Rd16 W Ls zs from s7.get 3 rfl)
              have HY := Lib.hid (show Rd8 W (some ⟨Y, 0, none⟩) [k8, n, 1, 2, k7] from s7.get 1 rfl)
              have hoX : W.heap[wr.heap.size]? = some (.cells #[.int .u8 n, .int .u8 n3, .int .u8 n2, .bool pb, .slice Ls 18 cl] 57) := s7.get 2 rfl
              have hoH : W.heap[H]? = some (.cells #[.slice (some ⟨Y, 0, none⟩) 5 5] 63) := s7.get 0 rfl
              have HKS : Hid (∀ V : World, Below W.heap.size W V → (V.cell? ⟨wr.heap.size, 0, none⟩ = some (.int .u8 n) ∧ V.cell? ⟨wr.heap.size, 1, none⟩ = some (.int .u8 n3) ∧ V.cell? ⟨wr.heap.size, 2, none⟩ = some (.int .u8 n2) ∧ V.cell? ⟨wr.heap.size, 3, none⟩ = some (.bool pb) ∧ V.cell? ⟨wr.heap.size, 4, none⟩ = some (.slice Ls 18 cl) ∧ V.cell? ⟨H, 0, none⟩ = some (.slice (some ⟨Y, 0, none⟩) 5 5))) := fun V hV => by
                have h1 := (hV.block _ (heap_lt hoX)).trans hoX
                have h2 := (hV.block _ (heap_lt hoH)).trans hoH
                refine ⟨?_, ?_, ?_, ?_, ?_, ?_⟩
                all_goals
                  first
                    | (rw [cell_of_row _ _ _ _ _ _ h1]; rfl)
                    | (rw [cell_of_row _ _ _ _ _ _ h2]; rfl)
              have HK8 := Lib.hid hk8
              have HN3 := Lib.hid hn3
              have HN2 := Lib.hid hn2
              clear s7 hoX hoH hk7 hpb hk8 hn3 hn2
              have K4 := fun w he hr => kShape P n n3 n2 pb Ls 18 cl zs w he hr HZL.out (by decide) mn.out m3.out m2.out
              have K5 := fun w he hr hw => kRun P n n3 n2 pb Ls (some ⟨Y, 0, none⟩) 18 cl 5 5 zs [k8, n, 1, 2, k7] n w he hr hw HZL.out (by decide) rfl (by decide) mn.out m3.out m2.out mn.out
              have K6 := fun B w he hr hw hw2 => kSplit P n n3 n2 pb Ls (some ⟨Y, 0, none⟩) B 18 cl 5 3 5 3 zs [k8, n, 1, 2, k7] [0, 1, k8] k8 w he hr hw hw2 HZL.out (by decide) rfl (by decide) rfl (by decide) mn.out m3.out m2.out m8.out
              have K7 := fun tx ty w he hr => kWith P n n3 n2 pb Ls 18 cl zs k8 n tx ty w he hr HZL.out (by decide) mn.out m3.out m2.out m8.out mn.out
              have K28 := fun w hr => kOf n n3 n2 pb Ls 18 cl zs w hr HZL.out (by decide) mn.out m3.out m2.out
              have K8 := fun ri ro X m cx rs w he hr hx hm => kSame P n n3 n2 pb Ls 18 cl zs n n3 n2 false Ls 18 cl zs ri ro X m cx rs w he hr HZL.out (by decide) hr HZL.out (by decide) hx hm mn.out m3.out m2.out mn.out m3.out m2.out
              have hw1 : IntKind.u8.wrap (n : Int) = n := IntWalk.u8_in _ (by omega)
              have hw2 : IntKind.u8.wrap q = k8 := by rw [IntKind.wrap_u8]; exact HK8.out
              have hw3 : (n : Int).tdiv 3 = n3 := by rw [Int.tdiv_eq_ediv_of_nonneg (by omega)]; exact HN3.out
              have hw4 : (n : Int).tdiv 2 = n2 := by rw [Int.tdiv_eq_ediv_of_nonneg (by omega)]; exact HN2.out
              have hw5 : IntKind.u8.wrap n3 = n3 := IntWalk.u8_in _ m3.out
              have hw6 : IntKind.u8.wrap n2 = n2 := IntWalk.u8_in _ m2.out
              have hw7 : IntKind.i64.wrap n3 = n3 := IntWalk.i64_in _ (by have := m3.out; omega)
              have hw8 : IntKind.i64.wrap n2 = n2 := IntWalk.i64_in _ (by have := m2.out; omega)
              have hz8 : ∀ z ∈ [0, 1, k8], 0 ≤ z ∧ z ≤ 255 := fun z hz => by
                have := m8.out
                simp at hz
                rcases hz with rfl | rfl | rfl <;> omega
              go_cut [170] from 113 to 169 (fun v wx => v = .bool false ∧ Below W.heap.size W wx)
              case first =>
                go_region_held3 (fun V => V.cell? ⟨wr.heap.size, 0, none⟩ = some (.int .u8 n) ∧ V.cell? ⟨wr.heap.size, 1, none⟩ = some (.int .u8 n3) ∧ V.cell? ⟨wr.heap.size, 2, none⟩ = some (.int .u8 n2) ∧ V.cell? ⟨wr.heap.size, 3, none⟩ = some (.bool pb) ∧ V.cell? ⟨wr.heap.size, 4, none⟩ = some (.slice Ls 18 cl) ∧ V.cell? ⟨H, 0, none⟩ = some (.slice (some ⟨Y, 0, none⟩) 5 5))
                  ((refine HKS.out _ ?_; repeat (first | assumption | (with_reducible (first | refine bA ?_ _ | refine bD ?_ | exact Below.refl _ _ | refine below_next ?_ (by assumption))))))
                  (first
                    | (go_at_call 4
                       (with_reducible refine (K4 _ (P.keep hE7 (by repeat (first | assumption | (with_reducible (first | refine bA ?_ _ | refine bD ?_ | exact Below.refl _ _ | refine below_next ?_ (by assumption)))))) (HL.out.below (by repeat (first | assumption | (with_reducible (first | refine bA ?_ _ | refine bD ?_ | exact Below.refl _ _ | refine below_next ?_ (by assumption))))))).mono ?_)
                       rintro e wA ⟨rfl, hbA⟩
                       dsimp only)
                    | (go_at_call 5
                       (with_reducible refine (K5 _ (P.keep hE7 (by repeat (first | assumption | (with_reducible (first | refine bA ?_ _ | refine bD ?_ | exact Below.refl _ _ | refine below_next ?_ (by assumption)))))) (HL.out.below (by repeat (first | assumption | (with_reducible (first | refine bA ?_ _ | refine bD ?_ | exact Below.refl _ _ | refine below_next ?_ (by assumption)))))) (HY.out.below (by repeat (first | assumption | (with_reducible (first | refine bA ?_ _ | refine bD ?_ | exact Below.refl _ _ | refine below_next ?_ (by assumption))))))).mono ?_)
                       rintro e wB ⟨rfl, hbB⟩
                       have hR3 : Rd8 (wB.alloc (.cells #[.int .u8 0, .int .u8 1, .int .u8 k8] 5)) (some ⟨wB.heap.size, 0, none⟩) [0, 1, k8] := rd8_lit wB [0, 1, k8] hz8
                       dsimp only)
                    | (go_at_call 6
                       (with_reducible refine (K6 (some ⟨wB.heap.size, 0, none⟩) _ (P.keep hE7 (by repeat (first | assumption | (with_reducible (first | refine bA ?_ _ | refine bD ?_ | exact Below.refl _ _ | refine below_next ?_ (by assumption)))))) (HL.out.below (by repeat (first | assumption | (with_reducible (first | refine bA ?_ _ | refine bD ?_ | exact Below.refl _ _ | refine below_next ?_ (by assumption)))))) (HY.out.below (by repeat (first | assumption | (with_reducible (first | refine bA ?_ _ | refine bD ?_ | exact Below.refl _ _ | refine below_next ?_ (by assumption)))))) hR3).mono ?_)
                       rintro e wC ⟨rfl, hbC⟩
                       dsimp only)
                    | (go_at_call 20
                       (with_reducible refine (edge_any _ _ _).mono ?_)
                       rintro e wD ⟨rfl, hbD⟩
                       dsimp only)
                    | (go_at_call 7
                       (with_reducible refine (K7 _ _ _ (P.keep hE7 (by repeat (first | assumption | (with_reducible (first | refine bA ?_ _ | refine bD ?_ | exact Below.refl _ _ | refine below_next ?_ (by assumption)))))) (HL.out.below (by repeat (first | assumption | (with_reducible (first | refine bA ?_ _ | refine bD ?_ | exact Below.refl _ _ | refine below_next ?_ (by assumption))))))).mono ?_)
                       rintro e wE ⟨rfl, hbE⟩
                       dsimp only)
                    | (go_at_call 28
                       (with_reducible refine (K28 _ (HL.out.below (by repeat (first | assumption | (with_reducible (first | refine bA ?_ _ | refine bD ?_ | exact Below.refl _ _ | refine below_next ?_ (by assumption))))))).mono ?_)
                       rintro e wF ⟨ri, ro, X, m, cx, rs, rfl, hrX, hm, hbF⟩
                       dsimp only)
                    | (go_at_call 8
                       (with_reducible refine (K8 ri ro X m cx rs _ (P.keep hE7 (by repeat (first | assumption | (with_reducible (first | refine bA ?_ _ | refine bD ?_ | exact Below.refl _ _ | refine below_next ?_ (by assumption)))))) (HL.out.below (by repeat (first | assumption | (with_reducible (first | refine bA ?_ _ | refine bD ?_ | exact Below.refl _ _ | refine below_next ?_ (by assumption)))))) hrX hm.out).mono ?_)
                       rintro e wG ⟨rfl, hbG⟩
                       dsimp only)
                    | fail)
                go_wp2_with fail
                go_meet
                refine ⟨rfl, ?_⟩
                repeat (first | assumption | (with_reducible (first | refine bA ?_ _ | refine bD ?_ | exact Below.refl _ _ | refine below_next ?_ (by assumption))))
              case rest =>
              obtain ⟨rfl, hbl⟩ := hcut
              have hbF := below_next hbX hbl
              clear hbl hbX HKS K4 K5 K6 K7 K28 K8 hw1 hw2 hw3 hw4 hw5 hw6 hw7 hw8
              go_wp2_with fail
              go_roundw
              case rel => exact ⟨q, n + 1, by omega, by go_num, rfl, hq0, hq1, hbF⟩
              case measure => simp [intOf]; omega
        · have hlt' : decide ((n : Int) < 60) = false := by simp; omega
          go_wp2_with fail
          have s5 := s4.next P hbr
          refine (lives_walk P _ s5.1).mono ?_
          rintro e wl ⟨rfl, hbl⟩
          have s6 := s5.next P hbl
          go_wp2
          go_ret
          exact ⟨rfl, s6.2.1⟩

end Go.Proofs.Ytiohfflkolopeaa
