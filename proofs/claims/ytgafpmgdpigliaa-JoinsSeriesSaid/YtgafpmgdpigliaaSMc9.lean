/-
  Contracts: the machines of plain data, M.Of.
-/
import Derived.Test.YtgafpmgdpigliaaScB
import Derived.Deep.RegionLaw
namespace Go.Proofs.Ytgafpmgdpigliaa
open Go.RowKit
open Mc (Ed Ma)

namespace Mc
/-- The edge of a number. -/
def mkE (p : Bool) (n o v : Int) : Ed := if p = true ∧ v % 4 = 3 then nE else (v / 4 % n, v / 4 / n % o)
def mkR (p : Bool) (n o : Int) (i : Nat) (es : List Int) (s : Nat) : List Ed := (List.range i).map fun j => mkE p n o (es[s * i + j]?.getD 0)
def mkN (p : Bool) (n i o : Nat) (es : List Int) : Ma := ⟨i, o, (List.range n).map fun s => mkR p n o i es s⟩
theorem mkR_len (p : Bool) (n o : Int) (i : Nat) (es : List Int) (s : Nat) : (mkR p n o i es s).length = i := by simp [mkR]
theorem mkR_at {p : Bool} {n o : Int} {i : Nat} {es : List Int} {s j : Nat} (h : j < i) : (mkR p n o i es s)[j]? = some (mkE p n o (es[s * i + j]?.getD 0)) := by simp [mkR, h]
theorem mkN_at {p : Bool} {n i o : Nat} {es : List Int} {s : Nat} (h : s < n) : (mkN p n i o es).r[s]? = some (mkR p n o i es s) := by simp [mkN, h]
theorem mkN_len (p : Bool) (n i o : Nat) (es : List Int) : (mkN p n i o es).r.length = n := by simp [mkN]
theorem mkE_ok {p : Bool} {n o v : Int} (hn : 1 ≤ n) (ho : 1 ≤ o) : ((mkE p n o v).1 = -1 ∧ (mkE p n o v).2 = -1) ∨ (0 ≤ (mkE p n o v).1 ∧ (mkE p n o v).1 < n ∧ 0 ≤ (mkE p n o v).2 ∧ (mkE p n o v).2 < o) := by
  unfold mkE
  split
  · exact Or.inl ⟨rfl, rfl⟩
  · refine Or.inr ⟨Int.emod_nonneg _ (by omega), Int.emod_lt_of_pos _ (by omega), Int.emod_nonneg _ (by omega), Int.emod_lt_of_pos _ (by omega)⟩
theorem mkN_val {p : Bool} {n i o : Nat} {es : List Int} (hn : 1 ≤ n) (hn2 : n ≤ 64) (hi : 1 ≤ i) (hi2 : i ≤ 16) (ho : 1 ≤ o) (ho2 : o ≤ 16) : Val (mkN p n i o es) := by
  refine ⟨by simp [mkN]; omega, by simp [mkN]; omega, by simp [mkN]; omega, by simp [mkN]; omega, by rw [mkN_len]; omega, by rw [mkN_len]; omega, fun row hr => ?_, fun row hr x hx => ?_⟩
  · simp only [mkN, List.mem_map, List.mem_range] at hr
    obtain ⟨s, _, rfl⟩ := hr
    rw [mkR_len]; rfl
  · rw [mkN_len]
    simp only [mkN, List.mem_map, List.mem_range] at hr
    obtain ⟨s, _, rfl⟩ := hr
    simp only [mkR, List.mem_map, List.mem_range] at hx
    obtain ⟨j, _, rfl⟩ := hx
    exact mkE_ok (by omega) (by show 1 ≤ (o : Int); omega)
end Mc
/-- A slice of uint16 that reads as a list. -/
def Rd16 (w : World) (A : Option Addr) (zs : List Int) : Prop :=
  0 < zs.length → ∃ b off, A = some ⟨b, off, none⟩ ∧ b < w.heap.size ∧ ∀ k z, zs[k]? = some z → w.cell? ⟨b, off + k, none⟩ = some (.int .u16 z) ∧ 0 ≤ z ∧ z ≤ 65535
theorem Rd16.nil_ {w : World} {A : Option Addr} : Rd16 w A [] := fun h => absurd h (by simp)
theorem Rd16.below {w w' : World} {A : Option Addr} {zs : List Int} (h : Rd16 w A zs) (hb : Below w.heap.size w w') : Rd16 w' A zs := fun hp => by
  obtain ⟨b, off, e, hl, hc⟩ := h hp
  exact ⟨b, off, e, by have := hb.size; omega, fun k z hk => ⟨((bcell hb).1 _ _ hl).trans (hc k z hk).1, (hc k z hk).2⟩⟩
theorem Rd16.at_ {w : World} {A : Option Addr} {zs : List Int} (h : Rd16 w A zs) {k : Nat} (hk : k < zs.length) : ∃ b off z, A = some ⟨b, off, none⟩ ∧ b < w.heap.size ∧ w.cell? ⟨b, off + k, none⟩ = some (.int .u16 z) ∧ 0 ≤ z ∧ z ≤ 65535 ∧ Hid (zs[k]? = some z) := by
  obtain ⟨b, off, e, hl, hc⟩ := h (by omega)
  obtain ⟨h1, h2, h3⟩ := hc k _ (List.getElem?_eq_getElem hk)
  exact ⟨b, off, _, e, hl, h1, h2, h3, List.getElem?_eq_getElem hk⟩
/-- What Of hands back: the machine, in memory of its own. -/
def BltM (w : World) (m : Ma) (e : Ending) (w' : World) : Prop := ∃ V vs, e = .returned (.agg #[.int .i64 m.i, .int .i64 m.o, V]) ∧ Hid (Bld w' w.heap.size V m.r vs) ∧ Below w.heap.size w w'

abbrev boxX (w : World) (a b d : Int) (p : Bool) (A : Option Addr) (n c : Nat) : World := (w.alloc (.cells #[.int .u8 a, .int .u8 b, .int .u8 d, .bool p, .slice A n c] 40)).alloc (.cells #[.int .i64 0, .int .i64 0, .slice none 0 0] 24)
theorem boxX_cells {w wr : World} {a b d : Int} {p : Bool} {A : Option Addr} {n c : Nat} (h : Below (w.heap.size + 2) (boxX w a b d p A n c) wr) :
    wr.cell? ⟨w.heap.size, 3, none⟩ = some (.bool p) ∧ wr.cell? ⟨w.heap.size, 4, none⟩ = some (.slice A n c) := by
  refine ⟨?_, ?_⟩
  · rw [h.cell (p := ⟨w.heap.size, 3, none⟩) (by simp), World.cell?_alloc_past _ _ _ (by simp), World.cell?_alloc_at _ _ _ _ rfl]; rfl
  · rw [h.cell (p := ⟨w.heap.size, 4, none⟩) (by simp), World.cell?_alloc_past _ _ _ (by simp), World.cell?_alloc_at _ _ _ _ rfl]; rfl
theorem boxX_below {w wr : World} {a b d : Int} {p : Bool} {A : Option Addr} {n c : Nat} (h : Below (w.heap.size + 2) (boxX w a b d p A n c) wr) : Below w.heap.size w wr := (((Below.refl _ _).alloc (Nat.le_refl _) _).alloc (by simp) _).trans (h.mono (by omega))

theorem edge_form {w : World} {B n : Nat} {v : Value} {xs : List Value} (h : w.ownsRow B 27 2 v n xs) (hv : v ≠ .slice none 0 0) : ∃ g cap, v = .slice (some ⟨g, 0, none⟩) n cap ∧ n ≤ cap := by
  rcases h.2 with ⟨h0, _⟩ | ⟨g, cap, cur, rfl, _, _, hc, _⟩
  · exact absurd h0 hv
  · exact ⟨g, cap, rfl, hc⟩
theorem own_base {w : World} {B B' n sz : Nat} {t : TypeId} {v : Value} {xs : List Value} (h : w.ownsRow B t sz v n xs) (hB : B' ≤ B) : w.ownsRow B' t sz v n xs := by
  refine ⟨h.1, ?_⟩
  rcases h.2 with h0 | ⟨g, cap, cur, e, hb, rest⟩
  · exact .inl h0
  · exact .inr ⟨g, cap, cur, e, by omega, rest⟩
theorem Bld.base {w : World} {B B' : Nat} {V : Value} {rs : List (List Ed)} {vs : List Value} (h : Bld w B V rs vs) (hB : B' ≤ B) : Bld w B' V rs vs :=
  ⟨own_base h.1 hB, fun k row hk => by
    obtain ⟨g, c, h1, h2⟩ := h.2 k row hk
    exact ⟨g, c, h1, own_base h2 hB⟩⟩
theorem go_div {z d : Int} (h : 0 ≤ z) (h2 : z ≤ 65535) (hd : 0 ≤ d) : IntKind.i64.wrap (z.tdiv d) = z / d := by
  rw [Int.tdiv_eq_ediv_of_nonneg h]
  have h3 := Int.ediv_nonneg h hd
  have h4 : z / d ≤ z := Int.ediv_le_self _ h
  exact IntWalk.i64_in _ (by omega)
theorem go_x {z n : Int} (h : 0 ≤ z) (h2 : z ≤ 65535) : (IntKind.i64.wrap (z.tdiv 4)).tmod n = z / 4 % n := by
  rw [go_div h h2 (by decide), Int.tmod_eq_emod_of_nonneg (Int.ediv_nonneg h (by decide))]
theorem go_y {z n o : Int} (h : 0 ≤ z) (h2 : z ≤ 65535) (hn : 0 ≤ n) : (IntKind.i64.wrap ((IntKind.i64.wrap (z.tdiv 4)).tdiv n)).tmod o = z / 4 / n % o := by
  have h3 := Int.ediv_nonneg (b := 4) h (by decide)
  have h4 : z / 4 ≤ z := Int.ediv_le_self _ h
  rw [go_div h h2 (by decide), go_div h3 (by omega) hn, Int.tmod_eq_emod_of_nonneg (Int.ediv_nonneg h3 hn)]
theorem cells_pair (w : World) (x y : Int) : ∀ (j : Nat) (v : Value), ([.int .i64 x, .int .i64 y] : List Value)[j]? = some v → (w.alloc (.cells #[.int .i64 x, .int .i64 y] 27)).drew.cell? ((⟨w.heap.size, 0, none⟩ : Addr).add j) = some v := fun j v hj => by
  show (w.alloc (.cells #[.int .i64 x, .int .i64 y] 27)).cell? _ = _
  rw [Addr.add_lit, World.cell?_alloc_at _ _ _ _ rfl]
  match j, hj with
  | 0, hj => simpa using hj
  | 1, hj => simpa using hj
theorem two_cells (x y : Int) : ∀ v ∈ ([.int .i64 x, .int .i64 y] : List Value), v.oneCell' = true := fun v hv => by
  simp at hv
  rcases hv with rfl | rfl <;> rfl
set_option maxRecDepth 100000 in
set_option maxHeartbeats 4000000 in
theorem mof_any (a b d : Int) (p : Bool) (A : Option Addr) (c : Nat) (es : List Int) (n i o : Nat) (w : World) (hr : Rd16 w A es) (hl : es.length ≤ 9223372036854775807) (ha : 0 ≤ a ∧ a ≤ 255) (hb : 0 ≤ b ∧ b ≤ 255) (hd : 0 ≤ d ∧ d ≤ 255)
    (hn : 1 + a % 6 = n) (hi : 1 + b % 3 = i) (ho : 1 + d % 3 = o) :
    Calls Try.prog 16 #[.agg #[.int .u8 a, .int .u8 b, .int .u8 d, .bool p, .slice A es.length c]] w (BltM w (Mc.mkN p n i o es)) := by
  have n1 : 1 ≤ n := by omega
  have n2 : n ≤ 6 := by omega
  have i1 : 1 ≤ i := by omega
  have i2 : i ≤ 3 := by omega
  have o1 : 1 ≤ o := by omega
  have o2 : o ≤ 3 := by omega
  obtain ⟨a1, a2⟩ := ha
  obtain ⟨b1, b2⟩ := hb
  obtain ⟨d1, d2⟩ := hd
  obtain ⟨k0, hk0, hk1, hk2, hk3⟩ := info_parts edge_info
  obtain ⟨r0, hr0, hr1, hr2, hr3⟩ := info_parts row_info
  go_enter Try.func16, Try.ntmps16
  go_wp2_with fail
  have hX : Below (w.heap.size + 2) (boxX w a b d p A es.length c) (boxX w a b d p A es.length c) := Below.refl _ _
  obtain ⟨R, hR⟩ : ∃ R, (Mc.mkN p n i o es).r = R := ⟨_, rfl⟩
  have hpost : Hid (∀ e w', (∃ V vs, e = Ending.returned (.agg #[.int .i64 i, .int .i64 o, V]) ∧ Hid (Bld w' w.heap.size V R vs) ∧ Below w.heap.size w w') → BltM w (Mc.mkN p n i o es) e w') := fun e w' ⟨V, vs, h1, h2, h3⟩ => ⟨V, vs, h1, by rw [hR]; exact h2, h3⟩
  have hRl : Hid (R.length = n) := by rw [← hR]; exact Mc.mkN_len _ _ _ _ _
  have hRat : Hid (∀ s, s < n → R[s]? = some (Mc.mkR p n o i es s)) := fun s hs => by rw [← hR]; exact Mc.mkN_at hs
  go_loopw [5] (fun v wr => ∃ (s : Nat) (V : Value) (vs : List Value), s ≤ n ∧ v = .int .i64 s ∧ Hid (wr.heap[w.heap.size + 2]? = some (.cells #[.int .i64 i, .int .i64 o, V] 24)) ∧ Hid (Bld wr (w.heap.size + 3) V (R.take s) vs) ∧ Below (w.heap.size + 2) (boxX w a b d p A es.length c) wr) (fun v _ => n - (intOf v).toNat)
  case atStart =>
    refine ⟨0, .slice none 0 0, [], Nat.zero_le _, rfl, ?_, Bld.nil_ _ _, hX.alloc (by simp) _⟩
    have := heap_alloc_new (boxX w a b d p A es.length c) (.cells #[.int .i64 i, .int .i64 o, .slice none 0 0] 24)
    rw [show (boxX w a b d p A es.length c).heap.size = w.heap.size + 2 by simp] at this
    exact this
  case round =>
    clear hX hR
    obtain ⟨s, V, vs, hs, rfl, hG, hB, hbr⟩ := hrel
    have hts : (R.take s).length = s := by rw [List.length_take]; have := hRl.out; omega
    obtain ⟨A', c', hV, _⟩ := hB.out.rd
    rw [hts] at hV
    subst hV
    obtain ⟨x3, x4⟩ := boxX_cells hbr
    have g0 : wr.cell? ⟨w.heap.size + 2, 0, none⟩ = some (.int .i64 i) := by rw [cell_of_row wr _ _ _ _ _ hG.out]; rfl
    have g1 : wr.cell? ⟨w.heap.size + 2, 1, none⟩ = some (.int .i64 o) := by rw [cell_of_row wr _ _ _ _ _ hG.out]; rfl
    have g2 : wr.cell? ⟨w.heap.size + 2, 2, none⟩ = some (.slice A' s c') := by rw [cell_of_row wr _ _ _ _ _ hG.out]; rfl
    have hGs : w.heap.size + 3 ≤ wr.heap.size := by
      have hG := hG.out
      rcases Nat.lt_or_ge (w.heap.size + 2) wr.heap.size with h | h
      · omega
      · rw [Array.getElem?_eq_none h] at hG; cases hG
    by_cases hsl : s < n
    · go_wp2
      obtain ⟨wo, rfl⟩ : ∃ wo : World, wo = wr := ⟨_, rfl⟩
      go_loopw [6, 7] (fun u v wr => ∃ (j : Nat) (xs : List Ed), j ≤ i ∧ v = .int .i64 j ∧ wr.ownsRow wo.heap.size 27 2 u xs.length (eC xs) ∧ Hid (xs = (Mc.mkR p n o i es s).take j) ∧ Hid (0 < j → u ≠ .slice none 0 0) ∧ Below wo.heap.size wo wr) (fun _ v _ => i - (intOf v).toNat)
      case atStart => exact ⟨0, [], Nat.zero_le _, rfl, World.ownsRow_nil _ _ _ _, rfl, (fun h => absurd h (by omega)), Below.refl _ _⟩
      case round =>
        clear g0 g1 g2 x3 x4
        obtain ⟨j, xs, hj, rfl, hown, hxs, hnn, hbr2⟩ := hrel
        have hbr3 : Below (w.heap.size + 2) (boxX w a b d p A es.length c) wr := hbr.trans (hbr2.mono (by omega))
        obtain ⟨x3, x4⟩ := boxX_cells hbr3
        have hG2 : Hid (wr.heap[w.heap.size + 2]? = some (.cells #[.int .i64 i, .int .i64 o, .slice A' s c'] 24)) := (hbr2.block _ (by omega)).trans hG.out
        have g0 : wr.cell? ⟨w.heap.size + 2, 0, none⟩ = some (.int .i64 i) := by rw [cell_of_row wr _ _ _ _ _ hG2.out]; rfl
        have g1 : wr.cell? ⟨w.heap.size + 2, 1, none⟩ = some (.int .i64 o) := by rw [cell_of_row wr _ _ _ _ _ hG2.out]; rfl
        have g2 : wr.cell? ⟨w.heap.size + 2, 2, none⟩ = some (.slice A' s c') := by rw [cell_of_row wr _ _ _ _ _ hG2.out]; rfl
        by_cases hjl : j < i
        · obtain ⟨K, hK⟩ : ∃ K : Nat, (s : Int) * (i : Int) = K := ⟨s * i, by simp⟩
          have hK' : s * i = K := by exact_mod_cast hK
          have hKb : K ≤ 18 := by rw [← hK']; exact Nat.le_trans (Nat.mul_le_mul (show s ≤ 6 by omega) i2) (by decide)
          have hjb : j ≤ 3 := by omega
          have hxl : Hid (xs.length ≤ 1000000) := by have := hxs.out; show _ ≤ _; rw [this, List.length_take]; omega
          have hszr := hbr2.size
          have s3 : xs.length + 1 ≤ maxLen := by have := hxl.out; unfold maxLen; omega
          have s4 : (xs.length + 1) * 16 ≤ 140737488355328 := by have := hxl.out; omega
          have hn0 : ((n : Int) == 0) = false := by rw [beq_eq_false_iff_ne]; omega
          have ho0 : ((o : Int) == 0) = false := by rw [beq_eq_false_iff_ne]; omega
          have hn0a : ¬ n = 0 := by omega
          have ho0a : ¬ o = 0 := by omega
          have hn0b : (n == 0) = false := by rw [beq_eq_false_iff_ne]; omega
          have ho0b : (o == 0) = false := by rw [beq_eq_false_iff_ne]; omega
          have hstep : Hid (∀ e, e = Mc.mkE p n o (es[K + j]?.getD 0) → xs ++ [e] = (Mc.mkR p n o i es s).take (j + 1)) := fun e he => by
            rw [List.take_add_one, Mc.mkR_at hjl, hK', ← he, ← hxs.out]; rfl
          clear hK'
          by_cases hk : K + j < es.length
          · obtain ⟨b4, off4, z, rfl, hb4, hz0, hz1, hz2, hze⟩ := (hr.below (boxX_below hbr3)).at_ hk
            have hk' : (K : Int) + (j : Int) < es.length := by omega
            obtain ⟨X, hX, hX2⟩ : ∃ X, (IntKind.i64.wrap (z.tdiv 4)).tmod (n : Int) = X ∧ Hid (z / 4 % (n : Int) = X) := ⟨_, rfl, (go_x hz1 hz2).symm⟩
            obtain ⟨Y, hY, hY2⟩ : ∃ Y, (IntKind.i64.wrap ((IntKind.i64.wrap (z.tdiv 4)).tdiv (n : Int))).tmod (o : Int) = Y ∧ Hid (z / 4 / n % (o : Int) = Y) := ⟨_, rfl, (go_y hz1 hz2 (by omega)).symm⟩
            have hq5 : 0 ≤ z % 4 := Int.emod_nonneg _ (by decide)
            cases p with
            | false =>
              have hgo : Hid (xs ++ [(X, Y)] = (Mc.mkR false n o i es s).take (j + 1)) := hstep.out _ (by rw [hze.out, ← hX2.out, ← hY2.out]; simp [Mc.mkE])
              have hownE : (wr.alloc (.cells #[.int .i64 (X), .int .i64 (Y)] 27)).drew.ownsRow wo.heap.size 27 2 u6 xs.length (eC xs) := hown.alloc _
              have S1 := Lib.hid (cells_pair wr (X) (Y))
              have S2 := Lib.hid (two_cells (X) (Y))
              have hbrE : Below wo.heap.size wo (wr.alloc (.cells #[.int .i64 (X), .int .i64 (Y)] 27)).drew := (hbr2.alloc hszr _).drew
              have s5 : wo.heap.size ≤ (wr.alloc (.cells #[.int .i64 (X), .int .i64 (Y)] 27)).drew.heap.size := by simp; omega
              go_wp2_with fail
              go_region_law (refine step_append_lies _ rfl (.tmp 65) (.tmp 78) 29 rfl wo.heap.size 27 k0 (.agg #[.int .i64 0, .int .i64 0]) 2 16 Try.underlying29 hk0 hk1 hk2 hk3 rfl (by decide) u6 xs.length (eC xs) (by simp [Act.eval]) hownE ⟨wr.heap.size, 0, none⟩ 1 1 [.int .i64 (X), .int .i64 (Y)] (by simp [Act.eval]) rfl S1.out S2.out (by decide) s3 s4 s5 _ rfl ?_; intro g2 c3 w1 hown1 hg1 hat1 hlt1)
              all_goals
                have hbr4 : Below wo.heap.size wo w1 := hbrE.grown hg1 s5 (fun j hj => (hownE.lt j hj).1)
                have hown2 : w1.ownsRow wo.heap.size 27 2 (.slice (some ⟨g2, 0, none⟩) (xs.length + 1) c3) (xs ++ [(X, Y)]).length (eC (xs ++ [(X, Y)])) := by
                  rw [eC_app, eC_one, List.length_append]; exact hown1
                clear hown1 hg1 hownE hown hat1 hlt1 S1 S2 s3 s4 hnn
                go_wp2
                exact ⟨⟨j + 1, _, by omega, by go_num, hown2, hgo, fun _ => (fun e => by cases e), hbr4⟩, by simp [intOf] <;> omega⟩
            | true =>
              by_cases h3 : z % 4 = 3
              · have h3' : (z % 4 == 3) = true := by rw [h3]; rfl
                have hgo : Hid (xs ++ [(-1, -1)] = (Mc.mkR true n o i es s).take (j + 1)) := hstep.out _ (by rw [hze.out]; simp [Mc.mkE, h3])
                clear h3
                go_wp2_with (at_builtin; refine wpList_append_edge _ (-1) (-1) hown hxl.out (by omega) hbr2 rfl _ _ rfl rfl rfl ?_)
                intro v1 w1 hown1 hnn1 hbr4
                clear hown hnn
                go_wp2
                go_roundw
                case rel => exact ⟨j + 1, xs ++ [(-1, -1)], by omega, by go_num, by rw [List.length_append]; exact hown1, hgo, fun _ => hnn1, hbr4⟩
                case measure => simp [intOf]; omega
              · have h3' : (z % 4 == 3) = false := by rw [beq_eq_false_iff_ne]; exact h3
                have hgo : Hid (xs ++ [(X, Y)] = (Mc.mkR true n o i es s).take (j + 1)) := hstep.out _ (by rw [hze.out, ← hX2.out, ← hY2.out]; simp [Mc.mkE, h3])
                have hownE : (wr.alloc (.cells #[.int .i64 (X), .int .i64 (Y)] 27)).drew.ownsRow wo.heap.size 27 2 u6 xs.length (eC xs) := hown.alloc _
                have S1 := Lib.hid (cells_pair wr (X) (Y))
                have S2 := Lib.hid (two_cells (X) (Y))
                have hbrE : Below wo.heap.size wo (wr.alloc (.cells #[.int .i64 (X), .int .i64 (Y)] 27)).drew := (hbr2.alloc hszr _).drew
                have s5 : wo.heap.size ≤ (wr.alloc (.cells #[.int .i64 (X), .int .i64 (Y)] 27)).drew.heap.size := by simp; omega
                go_wp2_with fail
                go_region_law (refine step_append_lies _ rfl (.tmp 65) (.tmp 78) 29 rfl wo.heap.size 27 k0 (.agg #[.int .i64 0, .int .i64 0]) 2 16 Try.underlying29 hk0 hk1 hk2 hk3 rfl (by decide) u6 xs.length (eC xs) (by simp [Act.eval]) hownE ⟨wr.heap.size, 0, none⟩ 1 1 [.int .i64 (X), .int .i64 (Y)] (by simp [Act.eval]) rfl S1.out S2.out (by decide) s3 s4 s5 _ rfl ?_; intro g2 c3 w1 hown1 hg1 hat1 hlt1)
                all_goals
                  have hbr4 : Below wo.heap.size wo w1 := hbrE.grown hg1 s5 (fun j hj => (hownE.lt j hj).1)
                  have hown2 : w1.ownsRow wo.heap.size 27 2 (.slice (some ⟨g2, 0, none⟩) (xs.length + 1) c3) (xs ++ [(X, Y)]).length (eC (xs ++ [(X, Y)])) := by
                    rw [eC_app, eC_one, List.length_append]; exact hown1
                  clear hown1 hg1 hownE hown hat1 hlt1 S1 S2 s3 s4 hnn
                  go_wp2
                  exact ⟨⟨j + 1, _, by omega, by go_num, hown2, hgo, fun _ => (fun e => by cases e), hbr4⟩, by simp [intOf] <;> omega⟩
          · have hk' : ¬ (K : Int) + (j : Int) < es.length := by omega
            have hX : (IntKind.i64.wrap 0).tmod (n : Int) = 0 := by rw [IntWalk.i64_in _ (by omega)]; simp
            have hY : (IntKind.i64.wrap ((IntKind.i64.wrap 0).tdiv (n : Int))).tmod (o : Int) = 0 := by rw [IntWalk.i64_in 0 (by omega), Int.zero_tdiv, IntWalk.i64_in 0 (by omega)]; simp
            have hgo : Hid (xs ++ [(0, 0)] = (Mc.mkR p n o i es s).take (j + 1)) := hstep.out _ (by rw [List.getElem?_eq_none (by omega)]; simp [Mc.mkE])
            cases p with
            | false =>
              have hownE : (wr.alloc (.cells #[.int .i64 (0), .int .i64 (0)] 27)).drew.ownsRow wo.heap.size 27 2 u6 xs.length (eC xs) := hown.alloc _
              have S1 := Lib.hid (cells_pair wr (0) (0))
              have S2 := Lib.hid (two_cells (0) (0))
              have hbrE : Below wo.heap.size wo (wr.alloc (.cells #[.int .i64 (0), .int .i64 (0)] 27)).drew := (hbr2.alloc hszr _).drew
              have s5 : wo.heap.size ≤ (wr.alloc (.cells #[.int .i64 (0), .int .i64 (0)] 27)).drew.heap.size := by simp; omega
              go_wp2_with fail
              go_region_law (refine step_append_lies _ rfl (.tmp 65) (.tmp 78) 29 rfl wo.heap.size 27 k0 (.agg #[.int .i64 0, .int .i64 0]) 2 16 Try.underlying29 hk0 hk1 hk2 hk3 rfl (by decide) u6 xs.length (eC xs) (by simp [Act.eval]) hownE ⟨wr.heap.size, 0, none⟩ 1 1 [.int .i64 (0), .int .i64 (0)] (by simp [Act.eval]) rfl S1.out S2.out (by decide) s3 s4 s5 _ rfl ?_; intro g2 c3 w1 hown1 hg1 hat1 hlt1)
              all_goals
                have hbr4 : Below wo.heap.size wo w1 := hbrE.grown hg1 s5 (fun j hj => (hownE.lt j hj).1)
                have hown2 : w1.ownsRow wo.heap.size 27 2 (.slice (some ⟨g2, 0, none⟩) (xs.length + 1) c3) (xs ++ [(0, 0)]).length (eC (xs ++ [(0, 0)])) := by
                  rw [eC_app, eC_one, List.length_append]; exact hown1
                clear hown1 hg1 hownE hown hat1 hlt1 S1 S2 s3 s4 hnn
                go_wp2
                exact ⟨⟨j + 1, _, by omega, by go_num, hown2, hgo, fun _ => (fun e => by cases e), hbr4⟩, by simp [intOf] <;> omega⟩
            | true =>
              have hownE : (wr.alloc (.cells #[.int .i64 (0), .int .i64 (0)] 27)).drew.ownsRow wo.heap.size 27 2 u6 xs.length (eC xs) := hown.alloc _
              have S1 := Lib.hid (cells_pair wr (0) (0))
              have S2 := Lib.hid (two_cells (0) (0))
              have hbrE : Below wo.heap.size wo (wr.alloc (.cells #[.int .i64 (0), .int .i64 (0)] 27)).drew := (hbr2.alloc hszr _).drew
              have s5 : wo.heap.size ≤ (wr.alloc (.cells #[.int .i64 (0), .int .i64 (0)] 27)).drew.heap.size := by simp; omega
              go_wp2_with fail
              go_region_law (refine step_append_lies _ rfl (.tmp 65) (.tmp 78) 29 rfl wo.heap.size 27 k0 (.agg #[.int .i64 0, .int .i64 0]) 2 16 Try.underlying29 hk0 hk1 hk2 hk3 rfl (by decide) u6 xs.length (eC xs) (by simp [Act.eval]) hownE ⟨wr.heap.size, 0, none⟩ 1 1 [.int .i64 (0), .int .i64 (0)] (by simp [Act.eval]) rfl S1.out S2.out (by decide) s3 s4 s5 _ rfl ?_; intro g2 c3 w1 hown1 hg1 hat1 hlt1)
              all_goals
                have hbr4 : Below wo.heap.size wo w1 := hbrE.grown hg1 s5 (fun j hj => (hownE.lt j hj).1)
                have hown2 : w1.ownsRow wo.heap.size 27 2 (.slice (some ⟨g2, 0, none⟩) (xs.length + 1) c3) (xs ++ [(0, 0)]).length (eC (xs ++ [(0, 0)])) := by
                  rw [eC_app, eC_one, List.length_append]; exact hown1
                clear hown1 hg1 hownE hown hat1 hlt1 S1 S2 s3 s4 hnn
                go_wp2
                exact ⟨⟨j + 1, _, by omega, by go_num, hown2, hgo, fun _ => (fun e => by cases e), hbr4⟩, by simp [intOf] <;> omega⟩
        · have hji : ¬ (j : Int) < i := by omega
          have hje : j = i := by omega
          have hxi : Hid (xs = Mc.mkR p n o i es s) := by
            have h := hxs.out
            rw [List.take_of_length_le (by rw [Mc.mkR_len]; omega)] at h
            exact h
          have hxl : xs.length = i := by rw [hxi.out, Mc.mkR_len]
          rw [hxl] at hown
          have HXL := Lib.hid hxl
          clear hxl
          obtain ⟨gq, cq, rfl, hcq⟩ := edge_form hown (hnn.out (by omega))
          have hS1 := Lib.hid (cell_one_new wr (t := 29) (.slice (some ⟨gq, 0, none⟩) i cq))
          have hBr := Lib.hid (hB.out.below hbr2)
          have hVl : Hid (vs.length = s) := by have := hB.out.1.1; have := hts; show _ = _; omega
          have hown17 := (hBr.out.1.alloc (.cells #[.slice (some ⟨gq, 0, none⟩) i cq] 29))
          rw [hts] at hown17
          have hS2 : Hid (∀ u ∈ ([.slice (some ⟨gq, 0, none⟩) i cq] : List Value), u.oneCell' = true) := fun u hu => by simp at hu; subst hu; rfl
          have hS3 : s + 1 ≤ maxLen := by unfold maxLen; omega
          have hS4 : (s + 1) * 24 ≤ 140737488355328 := by omega
          have hS5 : w.heap.size + 3 ≤ (wr.alloc (.cells #[.slice (some ⟨gq, 0, none⟩) i cq] 29)).heap.size := by have := hbr2.size; simp; omega
          go_wp2_with (at_builtin; refine wpList_append_own _ rfl _ _ 22 rfl (w.heap.size + 3) 29 r0 (.slice none 0 0) 1 24 Try.underlying22 hr0 hr1 hr2 hr3 rfl (by decide) _ _ _ rfl hown17 ⟨wr.heap.size, 0, none⟩ 1 1 [.slice (some ⟨gq, 0, none⟩) i cq] rfl rfl hS1.out hS2.out hS3 hS4 hS5 ?_)
          intro v1 w1 hown1 hg1 hnil1
          have hne : some (w.heap.size + 2) ≠ (Value.slice A' s c').ownBlock := fun e => by
            have := (hown17.lt _ e.symm).1
            omega
          have hG3 : Hid (w1.heap[w.heap.size + 2]? = some (.cells #[.int .i64 i, .int .i64 o, .slice A' s c'] 24)) := by
            show _ = _
            rw [hg1.block (w.heap.size + 2) (by simp; have := hbr2.size; omega) hne, heap_alloc_old wr _ (by have := hbr2.size; omega)]
            exact hG2.out
          have g3 : w1.cell? ⟨w.heap.size + 2, 2, none⟩ = some (.slice A' s c') := by rw [cell_of_row w1 _ _ _ _ _ hG3.out]; rfl
          have f3 : w1.frozen? ⟨w.heap.size + 2, 2, none⟩ = false := by have := hG3.out; simp [World.frozen?, this]
          have hpush := hBr.out.push (row := xs) (g := gq) (c := cq) (V1 := v1) (w1 := w1) (o := .cells #[.slice (some ⟨gq, 0, none⟩) i cq] 29) (by unfold OwR; rw [HXL.out]; exact own_base hown (by omega)) (by rw [hts, HXL.out]; exact hown1) hg1
          clear hnil1 hown1
          obtain ⟨A1, c1, rfl, hc1, hc1m, _, _⟩ := hpush.rd
          have hl1 : (R.take s ++ [xs]).length = s + 1 := by rw [List.length_append, hts]; rfl
          rw [hl1] at hpush ⊢
          have hset := hpush.kept (grown_setCell w1 ⟨w.heap.size + 2, 2, none⟩ (.slice A1 (s + 1) c1)) (by show w.heap.size + 2 < _; omega)
          have hRs : R.take s ++ [xs] = R.take (s + 1) := by rw [List.take_add_one, hRat.out s hsl, hxi.out]; rfl
          rw [hRs] at hset
          have hset := Lib.hid hset
          have hG4 : Hid ((w1.setCell ⟨w.heap.size + 2, 2, none⟩ (.slice A1 (s + 1) c1)).heap[w.heap.size + 2]? = some (.cells #[.int .i64 i, .int .i64 o, .slice A1 (s + 1) c1] 24)) := by
            have := hG3.out
            show _ = _
            simp [World.setCell, Array.getElem?_modify, this]
          have hbF : Below (w.heap.size + 2) (boxX w a b d p A es.length c) (w1.setCell ⟨w.heap.size + 2, 2, none⟩ (.slice A1 (s + 1) c1)) :=
            ((hbr3.alloc (by have := hbr2.size; omega) (.cells #[.slice (some ⟨gq, 0, none⟩) i cq] 29)).grown hg1 (by simp; have := hbr2.size; omega) (fun j hj => by have := (hown17.lt _ hj).1; omega)).setCell (p := ⟨w.heap.size + 2, 2, none⟩) (Nat.le_refl (w.heap.size + 2)) _
          clear hown hg1 hpush hRs hl1 hne hG3
          go_wp2
          go_roundw
          case rel => exact ⟨s + 1, _, _, by omega, by go_num, hG4, hset, hbF⟩
          case measure => simp [intOf]; omega
    · have hz0 : Hid (wr.heap[w.heap.size + 1]? = some (.cells #[.int .i64 0, .int .i64 0, .slice none 0 0] 24)) := by
        show _ = _
        rw [hbr.block (w.heap.size + 1) (by omega)]
        have := heap_alloc_new (w.alloc (.cells #[.int .u8 a, .int .u8 b, .int .u8 d, .bool p, .slice A es.length c] 40)) (.cells #[.int .i64 0, .int .i64 0, .slice none 0 0] 24)
        rw [show (w.alloc (.cells #[.int .u8 a, .int .u8 b, .int .u8 d, .bool p, .slice A es.length c] 40)).heap.size = w.heap.size + 1 by simp] at this
        exact this
      have r0 : wr.cell? ⟨w.heap.size + 1, 0, none⟩ = some (.int .i64 0) := by rw [cell_of_row wr _ _ _ _ _ hz0.out]; rfl
      have r1 : wr.cell? ⟨w.heap.size + 1, 1, none⟩ = some (.int .i64 0) := by rw [cell_of_row wr _ _ _ _ _ hz0.out]; rfl
      have r2 : wr.cell? ⟨w.heap.size + 1, 2, none⟩ = some (.slice none 0 0) := by rw [cell_of_row wr _ _ _ _ _ hz0.out]; rfl
      have f0 : wr.frozen? ⟨w.heap.size + 1, 0, none⟩ = false := by have := hz0.out; simp [World.frozen?, this]
      have f1 : wr.frozen? ⟨w.heap.size + 1, 1, none⟩ = false := by have := hz0.out; simp [World.frozen?, this]
      have f2 : wr.frozen? ⟨w.heap.size + 1, 2, none⟩ = false := by have := hz0.out; simp [World.frozen?, this]
      have hblk : Hid ((((wr.setCell ⟨w.heap.size + 1, 0, none⟩ (.int .i64 i)).setCell ⟨w.heap.size + 1, 1, none⟩ (.int .i64 o)).setCell ⟨w.heap.size + 1, 2, none⟩ (.slice A' s c')).heap[w.heap.size + 1]? = some (.cells #[.int .i64 i, .int .i64 o, .slice A' s c'] 24)) := by
        have := hz0.out
        show _ = _
        simp [World.setCell, Array.getElem?_modify, this]
      have hk1 := (hB.out.kept (grown_setCell wr ⟨w.heap.size + 1, 0, none⟩ (.int .i64 i)) (by show w.heap.size + 1 < _; omega)).kept (grown_setCell _ ⟨w.heap.size + 1, 1, none⟩ (.int .i64 o)) (by show w.heap.size + 1 < _; omega)
      have hk2 := hk1.kept (grown_setCell _ ⟨w.heap.size + 1, 2, none⟩ (.slice A' s c')) (by show w.heap.size + 1 < _; omega)
      rw [List.take_of_length_le (by have := hRl.out; omega)] at hk2
      have hk3 := Lib.hid hk2
      have hbf : Below w.heap.size w (((wr.setCell ⟨w.heap.size + 1, 0, none⟩ (.int .i64 i)).setCell ⟨w.heap.size + 1, 1, none⟩ (.int .i64 o)).setCell ⟨w.heap.size + 1, 2, none⟩ (.slice A' s c')) :=
        (((boxX_below hbr).setCell (p := ⟨w.heap.size + 1, 0, none⟩) (by show w.heap.size ≤ w.heap.size + 1; omega) _).setCell (p := ⟨w.heap.size + 1, 1, none⟩) (by show w.heap.size ≤ w.heap.size + 1; omega) _).setCell (p := ⟨w.heap.size + 1, 2, none⟩) (by show w.heap.size ≤ w.heap.size + 1; omega) _
      clear hk1 hk2
      go_wp2
      obtain ⟨W, hW⟩ : ∃ W, (((wr.setCell ⟨w.heap.size + 1, 0, none⟩ (.int .i64 i)).setCell ⟨w.heap.size + 1, 1, none⟩ (.int .i64 o)).setCell ⟨w.heap.size + 1, 2, none⟩ (.slice A' s c')) = W := ⟨_, rfl⟩
      rw [hW] at hblk hk3 hbf ⊢
      clear hW
      have e0 : W.cell? ⟨w.heap.size + 1, 0, none⟩ = some (.int .i64 i) := by rw [cell_of_row _ _ _ _ _ _ hblk.out]; rfl
      have e1 : W.cell? ⟨w.heap.size + 1, 1, none⟩ = some (.int .i64 o) := by rw [cell_of_row _ _ _ _ _ _ hblk.out]; rfl
      have e2 : W.cell? ⟨w.heap.size + 1, 2, none⟩ = some (.slice A' s c') := by rw [cell_of_row _ _ _ _ _ _ hblk.out]; rfl
      refine bodyPost_ret (by simp [results, Try.results16, go_sem, e0, e1, e2]; rfl) rfl ?_
      exact hpost.out _ _ ⟨.slice A' s c', vs, rfl, hk3.out.base (by omega), hbf⟩
end Go.Proofs.Ytgafpmgdpigliaa
