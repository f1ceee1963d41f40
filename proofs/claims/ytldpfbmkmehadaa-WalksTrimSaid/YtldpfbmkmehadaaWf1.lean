/-
  Contract: the reference's Part. No statement is proved here.
-/
import Derived.Test.YtldpfbmkmehadaaWd0
import Derived.Deep.CutRange
import Derived.Deep.RegionHeld3
namespace Go.Proofs.Ytldpfbmkmehadaa
open Go.RowKit
open Mc (Ed Ma)

namespace Mc
/-- Where a state stands, among the first k. -/
def lix (l : List Int) (a : Int) (k : Nat) : Int := if a ∈ l.take k then ix l a else -1
theorem lix_zero (l : List Int) (a : Int) : lix l a 0 = -1 := by simp [lix]
theorem lix_hit {l : List Int} {a : Int} {k : Nat} (hd : l.Nodup) (h : l[k]? = some a) : lix l a (k + 1) = k := by
  unfold lix
  rw [if_pos, ix_at hd h]
  rw [List.take_add_one, h]
  simp
theorem lix_miss {l : List Int} {a b : Int} {k : Nat} (h : l[k]? = some b) (hne : b ≠ a) : lix l a (k + 1) = lix l a k := by
  unfold lix
  have e : (a ∈ l.take (k + 1)) ↔ a ∈ l.take k := by
    rw [List.take_add_one, h]
    simp only [Option.toList_some, List.mem_append, List.mem_singleton]
    constructor
    · rintro (h1 | h1)
      · exact h1
      · exact absurd h1.symm hne
    · exact Or.inl
  by_cases h1 : a ∈ l.take k
  · rw [if_pos (e.2 h1), if_pos h1]
  · rw [if_neg (fun h2 => h1 (e.1 h2)), if_neg h1]
theorem lix_all (l : List Int) (a : Int) : lix l a l.length = ix l a := by
  unfold lix ix
  rw [List.take_length]
  by_cases h : a ∈ l
  · simp [h]
  · simp [h]
end Mc
abbrev boxP (w : World) (i o : Int) (A : Option Addr) (n c : Nat) : World := (boxM w i o A n c).alloc (.cells #[.int .i64 0, .int .i64 0, .slice none 0 0] 27)
theorem boxP_cells {w wr : World} {i o : Int} {A : Option Addr} {n c : Nat} (h : Below (w.heap.size + 1 + 1) (boxP w i o A n c) wr) :
    wr.cell? ⟨w.heap.size, 0, none⟩ = some (.int .i64 i) ∧ wr.cell? ⟨w.heap.size, 1, none⟩ = some (.int .i64 o) ∧ wr.cell? ⟨w.heap.size, 2, none⟩ = some (.slice A n c) := by
  refine ⟨?_, ?_, ?_⟩
  · rw [h.cell (p := ⟨w.heap.size, 0, none⟩) (by show w.heap.size < _; omega), World.cell?_alloc_past _ _ _ (by simp), World.cell?_alloc_at _ _ _ _ rfl]; rfl
  · rw [h.cell (p := ⟨w.heap.size, 1, none⟩) (by show w.heap.size < _; omega), World.cell?_alloc_past _ _ _ (by simp), World.cell?_alloc_at _ _ _ _ rfl]; rfl
  · rw [h.cell (p := ⟨w.heap.size, 2, none⟩) (by show w.heap.size < _; omega), World.cell?_alloc_past _ _ _ (by simp), World.cell?_alloc_at _ _ _ _ rfl]; rfl
theorem boxP_below {w wr : World} {i o : Int} {A : Option Addr} {n c : Nat} (h : Below (w.heap.size + 1 + 1) (boxP w i o A n c) wr) : Below w.heap.size w wr := (((Below.refl _ _).alloc (Nat.le_refl _) _).alloc (by simp) _).trans (h.mono (by omega))

set_option maxRecDepth 100000 in
set_option maxHeartbeats 4000000 in
theorem rpart_any (m : Ma) (i o : Nat) (l : List Int) (A B : Option Addr) (nm c k d : Nat) (w : World) (V : Mc.Val m) (hi : m.i = i) (ho : m.o = o) (hnm : m.r.length = nm) (hr : RdR w A m.r) (hB : Rd w B l) (hk : l.length = k) (hd : l.Nodup) (hrg : ∀ s ∈ l, 0 ≤ s ∧ s < m.r.length) :
    Calls Try.prog 25 #[.agg #[.int .i64 i, .int .i64 o, .slice A nm c], .slice B k d] w (BltM w (Mc.prt m l)) := by
  have hk64 : k ≤ 64 := by have := Mc.nodup_le m.r.length l hd hrg; have := V.r1; omega
  have hi16 : i ≤ 16 := by have := V.i1; omega
  have hi1 : 1 ≤ i := by have := V.i0; omega
  have HRW := Lib.hid V.len
  have HD := Lib.hid hd
  have HRG := Lib.hid hrg
  have HI := Lib.hid hi
  have HNM := Lib.hid hnm
  have HK := Lib.hid hk
  obtain ⟨k0, hk0, hk1, hk2, hk3⟩ := info_parts edge_info
  obtain ⟨r0, hr0, hr1, hr2, hr3⟩ := info_parts row_info
  obtain ⟨T, hT⟩ : ∃ T, (Mc.prt m l).r = T := ⟨_, rfl⟩
  have hpost : Hid (∀ e w', (∃ V vs, e = Ending.returned (.agg #[.int .i64 i, .int .i64 o, V]) ∧ Hid (Bld w' w.heap.size V T vs) ∧ Below w.heap.size w w') → BltM w (Mc.prt m l) e w') := fun e w' ⟨V, vs, h1, h2, h3⟩ => ⟨V, vs, by rw [h1, ← hi, ← ho]; rfl, by rw [hT]; exact h2, h3⟩
  have hTl : Hid (T.length = k) := by show _ = _; rw [← hT, Mc.prt_len]; exact hk
  have hTat : Hid (∀ (s : Nat) (a : Int) (row : List Ed), l[s]? = some a → m.r[a.toNat]? = some row → T[s]? = some (row.map fun x => (Mc.ix l x.1, x.2))) := fun s a row h1 h2 => by
    rw [← hT]
    show (List.map _ l)[s]? = _
    rw [List.getElem?_map, h1]
    show some (List.map _ ((m.r[a.toNat]?).getD [])) = _
    rw [h2]
    rfl
  clear V hd hrg hi ho hnm hk hT
  go_enter Try.func25, Try.ntmps25
  go_wp2_with fail
  have hX : Below (w.heap.size + 1 + 1) (boxP w i o A nm c) (boxP w i o A nm c) := Below.refl _ _
  go_loopw [6] (fun v wr => ∃ (s : Nat) (V : Value) (vs : List Value), s ≤ k ∧ v = .int .i64 s ∧ Hid (wr.heap[w.heap.size + 1 + 1]? = some (.cells #[.int .i64 i, .int .i64 o, V] 27)) ∧ Hid (Bld wr (w.heap.size + 1 + 1 + 1) V (T.take s) vs) ∧ Below (w.heap.size + 1 + 1) (boxP w i o A nm c) wr) (fun v _ => k - (intOf v).toNat)
  case atStart =>
    refine ⟨0, .slice none 0 0, [], Nat.zero_le _, rfl, ?_, Bld.nil_ _ _, hX.alloc (by simp) _⟩
    have := heap_alloc_new (boxP w i o A nm c) (.cells #[.int .i64 i, .int .i64 o, .slice none 0 0] 27)
    rw [show (boxP w i o A nm c).heap.size = w.heap.size + 1 + 1 by simp] at this
    exact this
  case round =>
    clear hX
    obtain ⟨s, V, vs, hs, rfl, hG, hBl, hbr⟩ := hrel
    have hts : (T.take s).length = s := by rw [List.length_take]; have := hTl.out; omega
    obtain ⟨A', c', hV, _⟩ := hBl.out.rd
    rw [hts] at hV
    subst hV
    have g2 : wr.cell? ⟨w.heap.size + 1 + 1, 2, none⟩ = some (.slice A' s c') := by rw [cell_of_row wr _ _ _ _ _ hG.out]; rfl
    have hGs : w.heap.size + 1 + 1 + 1 ≤ wr.heap.size := by
      have := heap_lt hG.out
      omega
    by_cases hsl : s < k
    · have hsk : (s : Int) < k := by omega
      obtain ⟨a, hla⟩ : ∃ a, l[s]? = some a := ⟨_, List.getElem?_eq_getElem (by rw [HK.out]; exact hsl)⟩
      obtain ⟨a', ha'⟩ := Int.eq_ofNat_of_zero_le (HRG.out a (List.mem_of_getElem? hla)).1
      subst ha'
      have han : a' < nm := by have := (HRG.out _ (List.mem_of_getElem? hla)).2; have := HNM.out; omega
      obtain ⟨row, hrow⟩ : ∃ row, m.r[a']? = some row := ⟨_, List.getElem?_eq_getElem (by rw [HNM.out]; exact han)⟩
      have hrl : Hid (row.length = i) := by have := HRW.out row (List.mem_of_getElem? hrow); have := HI.out; show _ = _; omega
      have hTs : Hid (T[s]? = some (row.map fun x => (Mc.ix l x.1, x.2))) := hTat.out s a' row hla hrow
      have HLA := Lib.hid hla
      have HROW := Lib.hid hrow
      clear hla hrow
      go_wp2
      obtain ⟨wo, rfl⟩ : ∃ wo : World, wo = wr := ⟨_, rfl⟩
      go_loopw [7, 8] (fun u v wr => ∃ (j : Nat) (xs : List Ed), j ≤ i ∧ v = .int .i64 j ∧ wr.ownsRow wo.heap.size 49 2 u xs.length (eC xs) ∧ Hid (xs = (row.map fun x => (Mc.ix l x.1, x.2)).take j) ∧ Hid (0 < j → u ≠ .slice none 0 0) ∧ Below wo.heap.size wo wr) (fun _ v _ => i - (intOf v).toNat)
      case atStart => exact ⟨0, [], Nat.zero_le _, rfl, World.ownsRow_nil _ _ _ _, rfl, (fun h => absurd h (by omega)), Below.refl _ _⟩
      case round =>
        clear g2
        obtain ⟨j, xs, hj, rfl, hown, hxs, hnn, hbr2⟩ := hrel
        have hbr3 : Below (w.heap.size + 1 + 1) (boxP w i o A nm c) wr := hbr.trans (hbr2.mono (by omega))
        obtain ⟨x0, x1, x2⟩ := boxP_cells hbr3
        have hG2 : Hid (wr.heap[w.heap.size + 1 + 1]? = some (.cells #[.int .i64 i, .int .i64 o, .slice A' s c'] 27)) := (hbr2.block _ (by omega)).trans hG.out
        by_cases hjl : j < i
        · have hji : (j : Int) < i := by omega
          obtain ⟨br, ofr, Br, cr, nr, row', rfl, hbrl, hcr, _, _, _, hPr, hrl', hrk⟩ := (hr.below (boxP_below hbr3)).at_ (k := a') (by rw [HNM.out]; exact han)
          have hro : row' = row := by
            have h1 := hrk.out
            rw [HROW.out] at h1
            injection h1 with h1
            exact h1.symm
          subst hro
          have hnr : nr = i := by rw [← hrl'.out]; exact hrl.out
          subst hnr
          obtain ⟨bx, ox, x, y, rfl, hbxl, hx, hy, hxy⟩ := hPr.at_ (k := j) (by rw [hrl.out]; exact hjl)
          obtain ⟨bl, ol, hBe, hbll, hlc⟩ : ∃ b off, B = some ⟨b, off, none⟩ ∧ b < wr.heap.size ∧ wr.cell? ⟨b, off + s, none⟩ = some (.int .i64 a') := by
            obtain ⟨b, off, z, h1, h4, h2, h3⟩ := (hB.below (boxP_below hbr3)).at_ (k := s) (by rw [HK.out]; exact hsl)
            have h3 := h3.out
            rw [HLA.out] at h3
            simp at h3
            rw [← h3] at h2
            exact ⟨b, off, h1, h4, h2⟩
          subst hBe
          have hxl : Hid (xs.length ≤ 1000000) := by have := hxs.out; show _ ≤ _; rw [this, List.length_take]; omega
          have hszr := hbr2.size
          have hann : (a' : Int) < nm := by omega
          have HXY := Lib.hid hxy.out
          clear hPr hrk hrl' hxy x1
          go_upto_region 9 with fail
          go_cut [9] from 23 to 60 (fun f wx => ∃ G, f = .pointer (some ⟨G, 0, none⟩) ∧ Hid (wx.heap[G]? = some (.cells #[.int .i64 x, .int .i64 y] 49)) ∧ wr.heap.size ≤ G ∧ Below wr.heap.size wr wx)
          case first =>
            have hpl : w.heap.size < wr.heap.size := by omega
            have c0 : (wr.alloc (.cells #[.int .i64 0, .int .i64 0] 49)).cell? ⟨w.heap.size, 2, none⟩ = some (.slice (some ⟨br, ofr, none⟩) nm c) := (World.cell?_alloc_past _ _ _ hpl).trans x2
            have c1 : (wr.alloc (.cells #[.int .i64 0, .int .i64 0] 49)).cell? ⟨bl, ol + s, none⟩ = some (.int .i64 a') := (World.cell?_alloc_past _ _ _ hbll).trans hlc
            have c2 : (wr.alloc (.cells #[.int .i64 0, .int .i64 0] 49)).cell? ⟨br, ofr + a', none⟩ = some (.slice (some ⟨bx, ox, none⟩) nr cr) := (World.cell?_alloc_past _ _ _ hbrl).trans hcr
            have c3 : (wr.alloc (.cells #[.int .i64 0, .int .i64 0] 49)).cell? ⟨bx, ox + j * 2, none⟩ = some (.int .i64 x) := (World.cell?_alloc_past _ _ _ hbxl).trans hx
            have c4 : (wr.alloc (.cells #[.int .i64 0, .int .i64 0] 49)).cell? ⟨bx, ox + j * 2 + 1, none⟩ = some (.int .i64 y) := (World.cell?_alloc_past _ _ _ hbxl).trans hy
            go_region_held3 (fun w' => w'.cell? ⟨w.heap.size, 2, none⟩ = some (.slice (some ⟨br, ofr, none⟩) nm c) ∧ w'.cell? ⟨bl, ol + s, none⟩ = some (.int .i64 a') ∧ w'.cell? ⟨br, ofr + a', none⟩ = some (.slice (some ⟨bx, ox, none⟩) nr cr) ∧ w'.cell? ⟨bx, ox + j * 2, none⟩ = some (.int .i64 x) ∧ w'.cell? ⟨bx, ox + j * 2 + 1, none⟩ = some (.int .i64 y)) (first | exact ⟨c0, c1, c2, c3, c4⟩ | exact ⟨x2, hlc, hcr, hx, hy⟩ | go_keep) (first | fail)
            all_goals
              go_wp2_with fail
              go_meet
              exact ⟨_, rfl, heap_alloc_new wr _, Nat.le_refl _, ((Below.refl _ _).alloc (Nat.le_refl _) _).drew⟩
          case rest =>
          obtain ⟨G, rfl, hGx, hGw, hbx⟩ := hcut
          have hown1 := own_below hown hbx
          have hbc2 : Below wo.heap.size wo wc := hbr2.trans (hbx.mono hszr)
          have hbc3 : Below (w.heap.size + 1 + 1) (boxP w nr o (some ⟨br, ofr, none⟩) nm c) wc := hbr3.trans (hbx.mono (by omega))
          have e0 : wc.cell? ⟨G, 0, none⟩ = some (.int .i64 x) := by rw [cell_of_row wc _ _ _ _ _ hGx.out]; rfl
          have e1 : wc.cell? ⟨G, 1, none⟩ = some (.int .i64 y) := by rw [cell_of_row wc _ _ _ _ _ hGx.out]; rfl
          have hGl : G < wc.heap.size := heap_lt hGx.out
          have HOW := Lib.hid hown1
          have HB2 := Lib.hid hbc2
          have HB3 := Lib.hid hbc3
          clear hown hown1 hbr2 hbr3 hbc2 hbc3 hbx hGw x0 x2 hlc hcr hx hy e1
          go_wp2
          clear e0
          go_loopw [10, 11] (fun t v wq => ∃ q : Nat, q ≤ k ∧ v = .int .i64 q ∧ t = .int .i64 (Mc.lix l x q) ∧ Hid (Below wc.heap.size wc wq)) (fun _ v _ => k - (intOf v).toNat)
          case atStart => exact ⟨0, by omega, rfl, by rw [Mc.lix_zero], Below.refl _ _⟩
          case round =>
            obtain ⟨q, hq, rfl, rfl, hbq⟩ := hrel
            have e0 : wr.cell? ⟨G, 0, none⟩ = some (.int .i64 x) := (hbq.out.cell (p := ⟨G, 0, none⟩) hGl).trans (by rw [cell_of_row wc _ _ _ _ _ hGx.out]; rfl)
            have e1 : wr.cell? ⟨G, 1, none⟩ = some (.int .i64 y) := (hbq.out.cell (p := ⟨G, 1, none⟩) hGl).trans (by rw [cell_of_row wc _ _ _ _ _ hGx.out]; rfl)
            by_cases hqk : q < k
            · have hqk' : (q : Int) < k := by omega
              obtain ⟨b', off', z, hBe, _, hlz, hz⟩ := (hB.below (below_next (boxP_below HB3.out) hbq.out)).at_ (k := q) (by rw [HK.out]; exact hqk)
              injection hBe with hBe
              injection hBe with hBe1 hBe2
              subst hBe1 hBe2
              have hlq : l[q]? = some z := by
                have := hz.out
                rw [List.getElem?_eq_getElem (by rw [HK.out]; exact hqk)] at this ⊢
                exact congrArg some this
              by_cases hzx : z = x
              · subst hzx
                have hzz : (z == z) = true := by simp
                have hlx : Hid (Mc.lix l z (q + 1) = q) := Mc.lix_hit HD.out hlq
                clear hlq hz e1
                go_wp2
                go_quiet (fail)
                go_wp2
                go_roundw
                case rel => exact ⟨q + 1, by omega, by go_num, by rw [hlx.out], Lib.hid (below_drewN' hbq.out _)⟩
                case measure => simp [intOf]; omega
              · have hzz : (z == x) = false := by rw [beq_eq_false_iff_ne]; exact hzx
                have hlx : Hid (Mc.lix l x (q + 1) = Mc.lix l x q) := Mc.lix_miss hlq hzx
                clear hlq hz e1 hzx
                go_wp2
                go_quiet (fail)
                go_wp2
                go_roundw
                case rel => exact ⟨q + 1, by omega, by go_num, by rw [hlx.out], Lib.hid (below_drewN' hbq.out _)⟩
                case measure => simp [intOf]; omega
            · obtain rfl : q = k := by omega
              have hlx : Mc.lix l x q = Mc.ix l x := by rw [← HK.out]; exact Mc.lix_all l x
              obtain ⟨t, ht⟩ : ∃ t, Mc.ix l x = t := ⟨_, rfl⟩
              have hstep : Hid (xs ++ [(t, y)] = (row'.map fun x => (Mc.ix l x.1, x.2)).take (j + 1)) := by
                show _ = _
                rw [List.take_add_one, ← hxs.out, List.getElem?_map, HXY.out, ← ht]
                rfl
              have hownQ := own_below HOW.out hbq.out
              have hbQ : Below wo.heap.size wo wr := HB2.out.trans (hbq.out.mono HB2.out.size)
              have hszQ := hbQ.size
              rw [hlx, ht]
              clear hlx ht e0 HB3
              go_wp2_with (at_builtin; refine wpList_append_edge _ t y hownQ hxl.out (by omega) hbQ rfl _ _ rfl rfl rfl ?_)
              intro v1 w1 hown2 hnn1 hbr4
              clear hownQ hbQ hnn
              go_wp2
              go_roundw
              case rel => exact ⟨j + 1, xs ++ [(t, y)], by omega, by go_num, by rw [List.length_append]; exact hown2, hstep, fun _ => hnn1, hbr4⟩
              case measure => simp [intOf]; omega
        · have hji : ¬ (j : Int) < i := by omega
          have hje : j = i := by omega
          have g2 : wr.cell? ⟨w.heap.size + 1 + 1, 2, none⟩ = some (.slice A' s c') := by rw [cell_of_row wr _ _ _ _ _ hG2.out]; rfl
          have hxi : Hid (xs = row.map fun x => (Mc.ix l x.1, x.2)) := by
            have h := hxs.out
            rw [List.take_of_length_le (by rw [List.length_map]; have := hrl.out; omega)] at h
            exact h
          have hxl : xs.length = i := by rw [hxi.out, List.length_map]; exact hrl.out
          rw [hxl] at hown
          have HXL := Lib.hid hxl
          clear hxl
          obtain ⟨gq, cq, rfl, hcq⟩ := edge_form hown (hnn.out (by omega))
          have hS1 := Lib.hid (cell_one_new wr (t := 50) (.slice (some ⟨gq, 0, none⟩) i cq))
          have hBr := Lib.hid (hBl.out.below hbr2)
          have hVl : Hid (vs.length = s) := by have := hBl.out.1.1; have := hts; show _ = _; omega
          have hown17 := (hBr.out.1.alloc (.cells #[.slice (some ⟨gq, 0, none⟩) i cq] 50))
          rw [hts] at hown17
          have hS2 : Hid (∀ u ∈ ([.slice (some ⟨gq, 0, none⟩) i cq] : List Value), u.oneCell' = true) := fun u hu => by simp at hu; subst hu; rfl
          have hS3 : s + 1 ≤ maxLen := by unfold maxLen; omega
          have hS4 : (s + 1) * 24 ≤ 140737488355328 := by omega
          have hS5 : w.heap.size + 1 + 1 + 1 ≤ (wr.alloc (.cells #[.slice (some ⟨gq, 0, none⟩) i cq] 50)).heap.size := by have := hbr2.size; simp; omega
          go_wp2_with (at_builtin; refine wpList_append_own _ rfl _ _ 25 rfl (w.heap.size + 1 + 1 + 1) 50 r0 (.slice none 0 0) 1 24 Try.underlying25 hr0 hr1 hr2 hr3 rfl (by decide) _ _ _ rfl hown17 ⟨wr.heap.size, 0, none⟩ 1 1 [.slice (some ⟨gq, 0, none⟩) i cq] rfl rfl hS1.out hS2.out hS3 hS4 hS5 ?_)
          intro v1 w1 hown1 hg1 hnil1
          have hne : some (w.heap.size + 1 + 1) ≠ (Value.slice A' s c').ownBlock := fun e => by
            have := (hown17.lt _ e.symm).1
            omega
          have hG3 : Hid (w1.heap[w.heap.size + 1 + 1]? = some (.cells #[.int .i64 i, .int .i64 o, .slice A' s c'] 27)) := by
            show _ = _
            rw [hg1.block (w.heap.size + 1 + 1) (by simp; have := hbr2.size; omega) hne, heap_alloc_old wr _ (by have := hbr2.size; omega)]
            exact hG2.out
          have g3 : w1.cell? ⟨w.heap.size + 1 + 1, 2, none⟩ = some (.slice A' s c') := by rw [cell_of_row w1 _ _ _ _ _ hG3.out]; rfl
          have f3 : w1.frozen? ⟨w.heap.size + 1 + 1, 2, none⟩ = false := by have := hG3.out; simp [World.frozen?, this]
          have hpush := hBr.out.push (row := xs) (g := gq) (c := cq) (V1 := v1) (w1 := w1) (o := .cells #[.slice (some ⟨gq, 0, none⟩) i cq] 50) (by unfold OwR; rw [HXL.out]; exact own_base hown (by omega)) (by rw [hts, HXL.out]; exact hown1) hg1
          clear hnil1 hown1
          obtain ⟨A1, c1, rfl, hc1, hc1m, _, _⟩ := hpush.rd
          have hl1 : (T.take s ++ [xs]).length = s + 1 := by rw [List.length_append, hts]; rfl
          rw [hl1] at hpush ⊢
          have hset := hpush.kept (grown_setCell w1 ⟨w.heap.size + 1 + 1, 2, none⟩ (.slice A1 (s + 1) c1)) (by show w.heap.size + 1 + 1 < _; omega)
          have hRs : T.take s ++ [xs] = T.take (s + 1) := by rw [List.take_add_one, hTs.out, hxi.out]; rfl
          rw [hRs] at hset
          have hset := Lib.hid hset
          have hG4 : Hid ((w1.setCell ⟨w.heap.size + 1 + 1, 2, none⟩ (.slice A1 (s + 1) c1)).heap[w.heap.size + 1 + 1]? = some (.cells #[.int .i64 i, .int .i64 o, .slice A1 (s + 1) c1] 27)) := by
            have := hG3.out
            show _ = _
            simp [World.setCell, Array.getElem?_modify, this]
          have hbF : Below (w.heap.size + 1 + 1) (boxP w i o A nm c) (w1.setCell ⟨w.heap.size + 1 + 1, 2, none⟩ (.slice A1 (s + 1) c1)) :=
            ((hbr3.alloc (by have := hbr2.size; omega) (.cells #[.slice (some ⟨gq, 0, none⟩) i cq] 50)).grown hg1 (by simp; have := hbr2.size; omega) (fun j hj => by have := (hown17.lt _ hj).1; omega)).setCell (p := ⟨w.heap.size + 1 + 1, 2, none⟩) (Nat.le_refl (w.heap.size + 1 + 1)) _
          clear hown hg1 hpush hRs hl1 hne hG3
          go_wp2
          go_roundw
          case rel => exact ⟨s + 1, _, _, by omega, by go_num, hG4, hset, hbF⟩
          case measure => simp [intOf]; omega
    · have g0 : wr.cell? ⟨w.heap.size + 1 + 1, 0, none⟩ = some (.int .i64 i) := by rw [cell_of_row wr _ _ _ _ _ hG.out]; rfl
      have g1 : wr.cell? ⟨w.heap.size + 1 + 1, 1, none⟩ = some (.int .i64 o) := by rw [cell_of_row wr _ _ _ _ _ hG.out]; rfl
      have hz0 : Hid (wr.heap[w.heap.size + 1]? = some (.cells #[.int .i64 0, .int .i64 0, .slice none 0 0] 27)) := by
        show _ = _
        rw [hbr.block (w.heap.size + 1) (by omega)]
        have := heap_alloc_new (boxM w i o A nm c) (.cells #[.int .i64 0, .int .i64 0, .slice none 0 0] 27)
        rw [show (boxM w i o A nm c).heap.size = w.heap.size + 1 by simp] at this
        exact this
      have r0 : wr.cell? ⟨w.heap.size + 1, 0, none⟩ = some (.int .i64 0) := by rw [cell_of_row wr _ _ _ _ _ hz0.out]; rfl
      have r1 : wr.cell? ⟨w.heap.size + 1, 1, none⟩ = some (.int .i64 0) := by rw [cell_of_row wr _ _ _ _ _ hz0.out]; rfl
      have r2 : wr.cell? ⟨w.heap.size + 1, 2, none⟩ = some (.slice none 0 0) := by rw [cell_of_row wr _ _ _ _ _ hz0.out]; rfl
      have f0 : wr.frozen? ⟨w.heap.size + 1, 0, none⟩ = false := by have := hz0.out; simp [World.frozen?, this]
      have f1 : wr.frozen? ⟨w.heap.size + 1, 1, none⟩ = false := by have := hz0.out; simp [World.frozen?, this]
      have f2 : wr.frozen? ⟨w.heap.size + 1, 2, none⟩ = false := by have := hz0.out; simp [World.frozen?, this]
      have hblk : Hid ((((wr.setCell ⟨w.heap.size + 1, 0, none⟩ (.int .i64 i)).setCell ⟨w.heap.size + 1, 1, none⟩ (.int .i64 o)).setCell ⟨w.heap.size + 1, 2, none⟩ (.slice A' s c')).heap[w.heap.size + 1]? = some (.cells #[.int .i64 i, .int .i64 o, .slice A' s c'] 27)) := by
        have := hz0.out
        show _ = _
        simp [World.setCell, Array.getElem?_modify, this]
      have hk1 := (hBl.out.kept (grown_setCell wr ⟨w.heap.size + 1, 0, none⟩ (.int .i64 i)) (by show w.heap.size + 1 < _; omega)).kept (grown_setCell _ ⟨w.heap.size + 1, 1, none⟩ (.int .i64 o)) (by show w.heap.size + 1 < _; omega)
      have hk2 := hk1.kept (grown_setCell _ ⟨w.heap.size + 1, 2, none⟩ (.slice A' s c')) (by show w.heap.size + 1 < _; omega)
      rw [List.take_of_length_le (by have := hTl.out; omega)] at hk2
      have hk3 := Lib.hid hk2
      have hbf : Below w.heap.size w (((wr.setCell ⟨w.heap.size + 1, 0, none⟩ (.int .i64 i)).setCell ⟨w.heap.size + 1, 1, none⟩ (.int .i64 o)).setCell ⟨w.heap.size + 1, 2, none⟩ (.slice A' s c')) :=
        (((boxP_below hbr).setCell (p := ⟨w.heap.size + 1, 0, none⟩) (by show w.heap.size ≤ w.heap.size + 1; omega) _).setCell (p := ⟨w.heap.size + 1, 1, none⟩) (by show w.heap.size ≤ w.heap.size + 1; omega) _).setCell (p := ⟨w.heap.size + 1, 2, none⟩) (by show w.heap.size ≤ w.heap.size + 1; omega) _
      clear hk1 hk2
      go_wp2
      obtain ⟨W, hW⟩ : ∃ W, (((wr.setCell ⟨w.heap.size + 1, 0, none⟩ (.int .i64 i)).setCell ⟨w.heap.size + 1, 1, none⟩ (.int .i64 o)).setCell ⟨w.heap.size + 1, 2, none⟩ (.slice A' s c')) = W := ⟨_, rfl⟩
      rw [hW] at hblk hk3 hbf ⊢
      clear hW
      have e0 : W.cell? ⟨w.heap.size + 1, 0, none⟩ = some (.int .i64 i) := by rw [cell_of_row _ _ _ _ _ _ hblk.out]; rfl
      have e1 : W.cell? ⟨w.heap.size + 1, 1, none⟩ = some (.int .i64 o) := by rw [cell_of_row _ _ _ _ _ _ hblk.out]; rfl
      have e2 : W.cell? ⟨w.heap.size + 1, 2, none⟩ = some (.slice A' s c') := by rw [cell_of_row _ _ _ _ _ _ hblk.out]; rfl
      refine bodyPost_ret (by simp [results, Try.results25, go_sem, e0, e1, e2]; rfl) rfl ?_
      exact hpost.out _ _ ⟨.slice A' s c', vs, rfl, hk3.out.base (by omega), hbf⟩
end Go.Proofs.Ytldpfbmkmehadaa
