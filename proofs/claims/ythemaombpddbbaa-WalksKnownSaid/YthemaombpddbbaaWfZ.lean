/-
  Several texts in one: Wf1, Wf2, Wi1, Wh0. No statement is proved here.
-/
import Derived.Test.YthemaombpddbbaaWdA
import Derived.Deep.CutRange
import Derived.Deep.RegionHeld3
import Derived.Test.YthemaombpddbbaaWcY
import Derived.Test.YthemaombpddbbaaWcZ
namespace Go.Proofs.Ythemaombpddbbaa
open Go.RowKit
open Mc (Ed Ma)

namespace Mc
/-- Where a state stands, among the first k. -/
def lix (l : List Int) (a : Int) (k : Nat) : Int := if a ∈ l.take k then ix l a else -1
theorem lix_zero (l : List Int) (a : Int) : lix l a 0 = -1 := by simp [lix]
theorem lix_hit {l : List Int} {a : Int} {k : Nat} (hd : l.Nodup) (h : l[k]? = some a) : lix l a (k + 1) = k := by
  unfold lix
  rw [if_pos, ix_at hd h]
  rw [List.take_add_one, h]
  simp
theorem lix_miss {l : List Int} {a b : Int} {k : Nat} (h : l[k]? = some b) (hne : b ≠ a) : lix l a (k + 1) = lix l a k := by
  unfold lix
  have e : (a ∈ l.take (k + 1)) ↔ a ∈ l.take k := by
    rw [List.take_add_one, h]
    simp only [Option.toList_some, List.mem_append, List.mem_singleton]
    constructor
    · rintro (h1 | h1)
      · exact h1
      · exact absurd h1.symm hne
    · exact Or.inl
  by_cases h1 : a ∈ l.take k
  · rw [if_pos (e.2 h1), if_pos h1]
  · rw [if_neg (fun h2 => h1 (e.1 h2)), if_neg h1]
theorem lix_all (l : List Int) (a : Int) : lix l a l.length = ix l a := by
  unfold lix ix
  rw [List.take_length]
  by_cases h : a ∈ l
  · simp [h]
  · simp [h]
end Mc
abbrev boxP (w : World) (i o : Int) (A : Option Addr) (n c : Nat) : World := (boxM w i o A n c).alloc (.cells #[.int .i64 0, .int .i64 0, .slice none 0 0] 30)
theorem boxP_cells {w wr : World} {i o : Int} {A : Option Addr} {n c : Nat} (h : Below (w.heap.size + 1 + 1) (boxP w i o A n c) wr) :
    wr.cell? ⟨w.heap.size, 0, none⟩ = some (.int .i64 i) ∧ wr.cell? ⟨w.heap.size, 1, none⟩ = some (.int .i64 o) ∧ wr.cell? ⟨w.heap.size, 2, none⟩ = some (.slice A n c) := by
  refine ⟨?_, ?_, ?_⟩
  · rw [h.cell (p := ⟨w.heap.size, 0, none⟩) (by show w.heap.size < _; omega), World.cell?_alloc_past _ _ _ (by simp), World.cell?_alloc_at _ _ _ _ rfl]; rfl
  · rw [h.cell (p := ⟨w.heap.size, 1, none⟩) (by show w.heap.size < _; omega), World.cell?_alloc_past _ _ _ (by simp), World.cell?_alloc_at _ _ _ _ rfl]; rfl
  · rw [h.cell (p := ⟨w.heap.size, 2, none⟩) (by show w.heap.size < _; omega), World.cell?_alloc_past _ _ _ (by simp), World.cell?_alloc_at _ _ _ _ rfl]; rfl
theorem boxP_below {w wr : World} {i o : Int} {A : Option Addr} {n c : Nat} (h : Below (w.heap.size + 1 + 1) (boxP w i o A n c) wr) : Below w.heap.size w wr := (((Below.refl _ _).alloc (Nat.le_refl _) _).alloc (by simp) _).trans (h.mono (by omega))

set_option maxRecDepth 100000 in
set_option maxHeartbeats 4000000 in
theorem rpart_any (m : Ma) (i o : Nat) (l : List Int) (A B : Option Addr) (nm c k d : Nat) (w : World) (V : Mc.Val m) (hi : m.i = i) (ho : m.o = o) (hnm : m.r.length = nm) (hr : RdR w A m.r) (hB : Rd w B l) (hk : l.length = k) (hd : l.Nodup) (hrg : ∀ s ∈ l, 0 ≤ s ∧ s < m.r.length) :
    Calls Try.prog 23 #[.agg #[.int .i64 i, .int .i64 o, .slice A nm c], .slice B k d] w (BltM w (Mc.prt m l)) := by
  have hk64 : k ≤ 64 := by have := Mc.nodup_le m.r.length l hd hrg; have := V.r1; omega
  have hi16 : i ≤ 16 := by have := V.i1; omega
  have hi1 : 1 ≤ i := by have := V.i0; omega
  have HRW := Lib.hid V.len
  have HD := Lib.hid hd
  have HRG := Lib.hid hrg
  have HI := Lib.hid hi
  have HNM := Lib.hid hnm
  have HK := Lib.hid hk
  obtain ⟨k0, hk0, hk1, hk2, hk3⟩ := info_parts edge_info
  obtain ⟨r0, hr0, hr1, hr2, hr3⟩ := info_parts row_info
  obtain ⟨T, hT⟩ : ∃ T, (Mc.prt m l).r = T := ⟨_, rfl⟩
  have hpost : Hid (∀ e w', (∃ V vs, e = Ending.returned (.agg #[.int .i64 i, .int .i64 o, V]) ∧ Hid (Bld w' w.heap.size V T vs) ∧ Below w.heap.size w w') → BltM w (Mc.prt m l) e w') := fun e w' ⟨V, vs, h1, h2, h3⟩ => ⟨V, vs, by rw [h1, ← hi, ← ho]; rfl, by rw [hT]; exact h2, h3⟩
  have hTl : Hid (T.length = k) := by show _ = _; rw [← hT, Mc.prt_len]; exact hk
  have hTat : Hid (∀ (s : Nat) (a : Int) (row : List Ed), l[s]? = some a → m.r[a.toNat]? = some row → T[s]? = some (row.map fun x => (Mc.ix l x.1, x.2))) := fun s a row h1 h2 => by
    rw [← hT]
    show (List.map _ l)[s]? = _
    rw [List.getElem?_map, h1]
    show some (List.map _ ((m.r[a.toNat]?).getD [])) = _
    rw [h2]
    rfl
  clear V hd hrg hi ho hnm hk hT
  go_enter Try.func23, Try.ntmps23
  go_wp2_with fail
  have hX : Below (w.heap.size + 1 + 1) (boxP w i o A nm c) (boxP w i o A nm c) := Below.refl _ _
  go_loopw [6] (fun v wr => ∃ (s : Nat) (V : Value) (vs : List Value), s ≤ k ∧ v = .int .i64 s ∧ Hid (wr.heap[w.heap.size + 1 + 1]? = some (.cells #[.int .i64 i, .int .i64 o, V] 30)) ∧ Hid (Bld wr (w.heap.size + 1 + 1 + 1) V (T.take s) vs) ∧ Below (w.heap.size + 1 + 1) (boxP w i o A nm c) wr) (fun v _ => k - (intOf v).toNat)
  case atStart =>
    refine ⟨0, .slice none 0 0, [], Nat.zero_le _, rfl, ?_, Bld.nil_ _ _, hX.alloc (by simp) _⟩
    have := heap_alloc_new (boxP w i o A nm c) (.cells #[.int .i64 i, .int .i64 o, .slice none 0 0] 30)
    rw [show (boxP w i o A nm c).heap.size = w.heap.size + 1 + 1 by simp] at this
    exact this
  case round =>
    clear hX
    obtain ⟨s, V, vs, hs, rfl, hG, hBl, hbr⟩ := hrel
    have hts : (T.take s).length = s := by rw [List.length_take]; have := hTl.out; omega
    obtain ⟨A', c', hV, _⟩ := hBl.out.rd
    rw [hts] at hV
    subst hV
    have g2 : wr.cell? ⟨w.heap.size + 1 + 1, 2, none⟩ = some (.slice A' s c') := by rw [cell_of_row wr _ _ _ _ _ hG.out]; rfl
    have hGs : w.heap.size + 1 + 1 + 1 ≤ wr.heap.size := by
      have := heap_lt hG.out
      omega
    by_cases hsl : s < k
    · have hsk : (s : Int) < k := by omega
      obtain ⟨a, hla⟩ : ∃ a, l[s]? = some a := ⟨_, List.getElem?_eq_getElem (by rw [HK.out]; exact hsl)⟩
      obtain ⟨a', ha'⟩ := Int.eq_ofNat_of_zero_le (HRG.out a (List.mem_of_getElem? hla)).1
      subst ha'
      have han : a' < nm := by have := (HRG.out _ (List.mem_of_getElem? hla)).2; have := HNM.out; omega
      obtain ⟨row, hrow⟩ : ∃ row, m.r[a']? = some row := ⟨_, List.getElem?_eq_getElem (by rw [HNM.out]; exact han)⟩
      have hrl : Hid (row.length = i) := by have := HRW.out row (List.mem_of_getElem? hrow); have := HI.out; show _ = _; omega
      have hTs : Hid (T[s]? = some (row.map fun x => (Mc.ix l x.1, x.2))) := hTat.out s a' row hla hrow
      have HLA := Lib.hid hla
      have HROW := Lib.hid hrow
      clear hla hrow
      go_wp2
      obtain ⟨wo, rfl⟩ : ∃ wo : World, wo = wr := ⟨_, rfl⟩
      go_loopw [7, 8] (fun u v wr => ∃ (j : Nat) (xs : List Ed), j ≤ i ∧ v = .int .i64 j ∧ wr.ownsRow wo.heap.size 73 2 u xs.length (eC xs) ∧ Hid (xs = (row.map fun x => (Mc.ix l x.1, x.2)).take j) ∧ Hid (0 < j → u ≠ .slice none 0 0) ∧ Below wo.heap.size wo wr) (fun _ v _ => i - (intOf v).toNat)
      case atStart => exact ⟨0, [], Nat.zero_le _, rfl, World.ownsRow_nil _ _ _ _, rfl, (fun h => absurd h (by omega)), Below.refl _ _⟩
      case round =>
        clear g2
        obtain ⟨j, xs, hj, rfl, hown, hxs, hnn, hbr2⟩ := hrel
        have hbr3 : Below (w.heap.size + 1 + 1) (boxP w i o A nm c) wr := hbr.trans (hbr2.mono (by omega))
        obtain ⟨x0, x1, x2⟩ := boxP_cells hbr3
        have hG2 : Hid (wr.heap[w.heap.size + 1 + 1]? = some (.cells #[.int .i64 i, .int .i64 o, .slice A' s c'] 30)) := (hbr2.block _ (by omega)).trans hG.out
        by_cases hjl : j < i
        · have hji : (j : Int) < i := by omega
          obtain ⟨br, ofr, Br, cr, nr, row', rfl, hbrl, hcr, _, _, _, hPr, hrl', hrk⟩ := (hr.below (boxP_below hbr3)).at_ (k := a') (by rw [HNM.out]; exact han)
          have hro : row' = row := by
            have h1 := hrk.out
            rw [HROW.out] at h1
            injection h1 with h1
            exact h1.symm
          subst hro
          have hnr : nr = i := by rw [← hrl'.out]; exact hrl.out
          subst hnr
          obtain ⟨bx, ox, x, y, rfl, hbxl, hx, hy, hxy⟩ := hPr.at_ (k := j) (by rw [hrl.out]; exact hjl)
          obtain ⟨bl, ol, hBe, hbll, hlc⟩ : ∃ b off, B = some ⟨b, off, none⟩ ∧ b < wr.heap.size ∧ wr.cell? ⟨b, off + s, none⟩ = some (.int .i64 a') := by
            obtain ⟨b, off, z, h1, h4, h2, h3⟩ := (hB.below (boxP_below hbr3)).at_ (k := s) (by rw [HK.out]; exact hsl)
            have h3 := h3.out
            rw [HLA.out] at h3
            simp at h3
            rw [← h3] at h2
            exact ⟨b, off, h1, h4, h2⟩
          subst hBe
          have hxl : Hid (xs.length ≤ 1000000) := by have := hxs.out; show _ ≤ _; rw [this, List.length_take]; omega
          have hszr := hbr2.size
          have hann : (a' : Int) < nm := by omega
          have HXY := Lib.hid hxy.out
          clear hPr hrk hrl' hxy x1
          go_upto_region 9 with fail
          go_cut [9] from 23 to 60 (fun f wx => ∃ G, f = .pointer (some ⟨G, 0, none⟩) ∧ Hid (wx.heap[G]? = some (.cells #[.int .i64 x, .int .i64 y] 73)) ∧ wr.heap.size ≤ G ∧ Below wr.heap.size wr wx)
          case first =>
            have hpl : w.heap.size < wr.heap.size := by omega
            have c0 : (wr.alloc (.cells #[.int .i64 0, .int .i64 0] 73)).cell? ⟨w.heap.size, 2, none⟩ = some (.slice (some ⟨br, ofr, none⟩) nm c) := (World.cell?_alloc_past _ _ _ hpl).trans x2
            have c1 : (wr.alloc (.cells #[.int .i64 0, .int .i64 0] 73)).cell? ⟨bl, ol + s, none⟩ = some (.int .i64 a') := (World.cell?_alloc_past _ _ _ hbll).trans hlc
            have c2 : (wr.alloc (.cells #[.int .i64 0, .int .i64 0] 73)).cell? ⟨br, ofr + a', none⟩ = some (.slice (some ⟨bx, ox, none⟩) nr cr) := (World.cell?_alloc_past _ _ _ hbrl).trans hcr
            have c3 : (wr.alloc (.cells #[.int .i64 0, .int .i64 0] 73)).cell? ⟨bx, ox + j * 2, none⟩ = some (.int .i64 x) := (World.cell?_alloc_past _ _ _ hbxl).trans hx
            have c4 : (wr.alloc (.cells #[.int .i64 0, .int .i64 0] 73)).cell? ⟨bx, ox + j * 2 + 1, none⟩ = some (.int .i64 y) := (World.cell?_alloc_past _ _ _ hbxl).trans hy
            go_region_held3 (fun w' => w'.cell? ⟨w.heap.size, 2, none⟩ = some (.slice (some ⟨br, ofr, none⟩) nm c) ∧ w'.cell? ⟨bl, ol + s, none⟩ = some (.int .i64 a') ∧ w'.cell? ⟨br, ofr + a', none⟩ = some (.slice (some ⟨bx, ox, none⟩) nr cr) ∧ w'.cell? ⟨bx, ox + j * 2, none⟩ = some (.int .i64 x) ∧ w'.cell? ⟨bx, ox + j * 2 + 1, none⟩ = some (.int .i64 y)) (first | exact ⟨c0, c1, c2, c3, c4⟩ | exact ⟨x2, hlc, hcr, hx, hy⟩ | go_keep) (first | fail)
            all_goals
              go_wp2_with fail
              go_meet
              exact ⟨_, rfl, heap_alloc_new wr _, Nat.le_refl _, ((Below.refl _ _).alloc (Nat.le_refl _) _).drew⟩
          case rest =>
          obtain ⟨G, rfl, hGx, hGw, hbx⟩ := hcut
          have hown1 := own_below hown hbx
          have hbc2 : Below wo.heap.size wo wc := hbr2.trans (hbx.mono hszr)
          have hbc3 : Below (w.heap.size + 1 + 1) (boxP w nr o (some ⟨br, ofr, none⟩) nm c) wc := hbr3.trans (hbx.mono (by omega))
          have e0 : wc.cell? ⟨G, 0, none⟩ = some (.int .i64 x) := by rw [cell_of_row wc _ _ _ _ _ hGx.out]; rfl
          have e1 : wc.cell? ⟨G, 1, none⟩ = some (.int .i64 y) := by rw [cell_of_row wc _ _ _ _ _ hGx.out]; rfl
          have hGl : G < wc.heap.size := heap_lt hGx.out
          have HOW := Lib.hid hown1
          have HB2 := Lib.hid hbc2
          have HB3 := Lib.hid hbc3
          clear hown hown1 hbr2 hbr3 hbc2 hbc3 hbx hGw x0 x2 hlc hcr hx hy e1
          go_wp2
          clear e0
          go_loopw [10, 11] (fun t v wq => ∃ q : Nat, q ≤ k ∧ v = .int .i64 q ∧ t = .int .i64 (Mc.lix l x q) ∧ Hid (Below wc.heap.size wc wq)) (fun _ v _ => k - (intOf v).toNat)
          case atStart => exact ⟨0, by omega, rfl, by rw [Mc.lix_zero], Below.refl _ _⟩
          case round =>
            obtain ⟨q, hq, rfl, rfl, hbq⟩ := hrel
            have e0 : wr.cell? ⟨G, 0, none⟩ = some (.int .i64 x) := (hbq.out.cell (p := ⟨G, 0, none⟩) hGl).trans (by rw [cell_of_row wc _ _ _ _ _ hGx.out]; rfl)
            have e1 : wr.cell? ⟨G, 1, none⟩ = some (.int .i64 y) := (hbq.out.cell (p := ⟨G, 1, none⟩) hGl).trans (by rw [cell_of_row wc _ _ _ _ _ hGx.out]; rfl)
            by_cases hqk : q < k
            · have hqk' : (q : Int) < k := by omega
              obtain ⟨b', off', z, hBe, _, hlz, hz⟩ := (hB.below (below_next (boxP_below HB3.out) hbq.out)).at_ (k := q) (by rw [HK.out]; exact hqk)
              injection hBe with hBe
              injection hBe with hBe1 hBe2
              subst hBe1 hBe2
              have hlq : l[q]? = some z := by
                have := hz.out
                rw [List.getElem?_eq_getElem (by rw [HK.out]; exact hqk)] at this ⊢
                exact congrArg some this
              by_cases hzx : z = x
              · subst hzx
                have hzz : (z == z) = true := by simp
                have hlx : Hid (Mc.lix l z (q + 1) = q) := Mc.lix_hit HD.out hlq
                clear hlq hz e1
                go_wp2
                go_quiet (fail)
                go_wp2
                go_roundw
                case rel => exact ⟨q + 1, by omega, by go_num, by rw [hlx.out], Lib.hid (below_drewN' hbq.out _)⟩
                case measure => simp [intOf]; omega
              · have hzz : (z == x) = false := by rw [beq_eq_false_iff_ne]; exact hzx
                have hlx : Hid (Mc.lix l x (q + 1) = Mc.lix l x q) := Mc.lix_miss hlq hzx
                clear hlq hz e1 hzx
                go_wp2
                go_quiet (fail)
                go_wp2
                go_roundw
                case rel => exact ⟨q + 1, by omega, by go_num, by rw [hlx.out], Lib.hid (below_drewN' hbq.out _)⟩
                case measure => simp [intOf]; omega
            · obtain rfl : q = k := by omega
              have hlx : Mc.lix l x q = Mc.ix l x := by rw [← HK.out]; exact Mc.lix_all l x
              obtain ⟨t, ht⟩ : ∃ t, Mc.ix l x = t := ⟨_, rfl⟩
              have hstep : Hid (xs ++ [(t, y)] = (row'.map fun x => (Mc.ix l x.1, x.2)).take (j + 1)) := by
                show _ = _
                rw [List.take_add_one, ← hxs.out, List.getElem?_map, HXY.out, ← ht]
                rfl
              have hownQ := own_below HOW.out hbq.out
              have hbQ : Below wo.heap.size wo wr := HB2.out.trans (hbq.out.mono HB2.out.size)
              have hszQ := hbQ.size
              rw [hlx, ht]
              clear hlx ht e0 HB3
              go_wp2_with (at_builtin; refine wpList_append_edge _ t y hownQ hxl.out (by omega) hbQ rfl _ _ rfl rfl rfl ?_)
              intro v1 w1 hown2 hnn1 hbr4
              clear hownQ hbQ hnn
              go_wp2
              go_roundw
              case rel => exact ⟨j + 1, xs ++ [(t, y)], by omega, by go_num, by rw [List.length_append]; exact hown2, hstep, fun _ => hnn1, hbr4⟩
              case measure => simp [intOf]; omega
        · have hji : ¬ (j : Int) < i := by omega
          have hje : j = i := by omega
          have g2 : wr.cell? ⟨w.heap.size + 1 + 1, 2, none⟩ = some (.slice A' s c') := by rw [cell_of_row wr _ _ _ _ _ hG2.out]; rfl
          have hxi : Hid (xs = row.map fun x => (Mc.ix l x.1, x.2)) := by
            have h := hxs.out
            rw [List.take_of_length_le (by rw [List.length_map]; have := hrl.out; omega)] at h
            exact h
          have hxl : xs.length = i := by rw [hxi.out, List.length_map]; exact hrl.out
          rw [hxl] at hown
          have HXL := Lib.hid hxl
          clear hxl
          obtain ⟨gq, cq, rfl, hcq⟩ := edge_form hown (hnn.out (by omega))
          have hS1 := Lib.hid (cell_one_new wr (t := 57) (.slice (some ⟨gq, 0, none⟩) i cq))
          have hBr := Lib.hid (hBl.out.below hbr2)
          have hVl : Hid (vs.length = s) := by have := hBl.out.1.1; have := hts; show _ = _; omega
          have hown17 := (hBr.out.1.alloc (.cells #[.slice (some ⟨gq, 0, none⟩) i cq] 57))
          rw [hts] at hown17
          have hS2 : Hid (∀ u ∈ ([.slice (some ⟨gq, 0, none⟩) i cq] : List Value), u.oneCell' = true) := fun u hu => by simp at hu; subst hu; rfl
          have hS3 : s + 1 ≤ maxLen := by unfold maxLen; omega
          have hS4 : (s + 1) * 24 ≤ 140737488355328 := by omega
          have hS5 : w.heap.size + 1 + 1 + 1 ≤ (wr.alloc (.cells #[.slice (some ⟨gq, 0, none⟩) i cq] 57)).heap.size := by have := hbr2.size; simp; omega
          go_wp2_with (at_builtin; refine wpList_append_own _ rfl _ _ 28 rfl (w.heap.size + 1 + 1 + 1) 57 r0 (.slice none 0 0) 1 24 Try.underlying28 hr0 hr1 hr2 hr3 rfl (by decide) _ _ _ rfl hown17 ⟨wr.heap.size, 0, none⟩ 1 1 [.slice (some ⟨gq, 0, none⟩) i cq] rfl rfl hS1.out hS2.out hS3 hS4 hS5 ?_)
          intro v1 w1 hown1 hg1 hnil1
          have hne : some (w.heap.size + 1 + 1) ≠ (Value.slice A' s c').ownBlock := fun e => by
            have := (hown17.lt _ e.symm).1
            omega
          have hG3 : Hid (w1.heap[w.heap.size + 1 + 1]? = some (.cells #[.int .i64 i, .int .i64 o, .slice A' s c'] 30)) := by
            show _ = _
            rw [hg1.block (w.heap.size + 1 + 1) (by simp; have := hbr2.size; omega) hne, heap_alloc_old wr _ (by have := hbr2.size; omega)]
            exact hG2.out
          have g3 : w1.cell? ⟨w.heap.size + 1 + 1, 2, none⟩ = some (.slice A' s c') := by rw [cell_of_row w1 _ _ _ _ _ hG3.out]; rfl
          have f3 : w1.frozen? ⟨w.heap.size + 1 + 1, 2, none⟩ = false := by have := hG3.out; simp [World.frozen?, this]
          have hpush := hBr.out.push (row := xs) (g := gq) (c := cq) (V1 := v1) (w1 := w1) (o := .cells #[.slice (some ⟨gq, 0, none⟩) i cq] 57) (by unfold OwR; rw [HXL.out]; exact own_base hown (by omega)) (by rw [hts, HXL.out]; exact hown1) hg1
          clear hnil1 hown1
          obtain ⟨A1, c1, rfl, hc1, hc1m, _, _⟩ := hpush.rd
          have hl1 : (T.take s ++ [xs]).length = s + 1 := by rw [List.length_append, hts]; rfl
          rw [hl1] at hpush ⊢
          have hset := hpush.kept (grown_setCell w1 ⟨w.heap.size + 1 + 1, 2, none⟩ (.slice A1 (s + 1) c1)) (by show w.heap.size + 1 + 1 < _; omega)
          have hRs : T.take s ++ [xs] = T.take (s + 1) := by rw [List.take_add_one, hTs.out, hxi.out]; rfl
          rw [hRs] at hset
          have hset := Lib.hid hset
          have hG4 : Hid ((w1.setCell ⟨w.heap.size + 1 + 1, 2, none⟩ (.slice A1 (s + 1) c1)).heap[w.heap.size + 1 + 1]? = some (.cells #[.int .i64 i, .int .i64 o, .slice A1 (s + 1) c1] 30)) := by
            have := hG3.out
            show _ = _
            simp [World.setCell, Array.getElem?_modify, this]
          have hbF : Below (w.heap.size + 1 + 1) (boxP w i o A nm c) (w1.setCell ⟨w.heap.size + 1 + 1, 2, none⟩ (.slice A1 (s + 1) c1)) :=
            ((hbr3.alloc (by have := hbr2.size; omega) (.cells #[.slice (some ⟨gq, 0, none⟩) i cq] 57)).grown hg1 (by simp; have := hbr2.size; omega) (fun j hj => by have := (hown17.lt _ hj).1; omega)).setCell (p := ⟨w.heap.size + 1 + 1, 2, none⟩) (Nat.le_refl (w.heap.size + 1 + 1)) _
          clear hown hg1 hpush hRs hl1 hne hG3
          go_wp2
          go_roundw
          case rel => exact ⟨s + 1, _, _, by omega, by go_num, hG4, hset, hbF⟩
          case measure => simp [intOf]; omega
    · have g0 : wr.cell? ⟨w.heap.size + 1 + 1, 0, none⟩ = some (.int .i64 i) := by rw [cell_of_row wr _ _ _ _ _ hG.out]; rfl
      have g1 : wr.cell? ⟨w.heap.size + 1 + 1, 1, none⟩ = some (.int .i64 o) := by rw [cell_of_row wr _ _ _ _ _ hG.out]; rfl
      have hz0 : Hid (wr.heap[w.heap.size + 1]? = some (.cells #[.int .i64 0, .int .i64 0, .slice none 0 0] 30)) := by
        show _ = _
        rw [hbr.block (w.heap.size + 1) (by omega)]
        have := heap_alloc_new (boxM w i o A nm c) (.cells #[.int .i64 0, .int .i64 0, .slice none 0 0] 30)
        rw [show (boxM w i o A nm c).heap.size = w.heap.size + 1 by simp] at this
        exact this
      have r0 : wr.cell? ⟨w.heap.size + 1, 0, none⟩ = some (.int .i64 0) := by rw [cell_of_row wr _ _ _ _ _ hz0.out]; rfl
      have r1 : wr.cell? ⟨w.heap.size + 1, 1, none⟩ = some (.int .i64 0) := by rw [cell_of_row wr _ _ _ _ _ hz0.out]; rfl
      have r2 : wr.cell? ⟨w.heap.size + 1, 2, none⟩ = some (.slice none 0 0) := by rw [cell_of_row wr _ _ _ _ _ hz0.out]; rfl
      have f0 : wr.frozen? ⟨w.heap.size + 1, 0, none⟩ = false := by have := hz0.out; simp [World.frozen?, this]
      have f1 : wr.frozen? ⟨w.heap.size + 1, 1, none⟩ = false := by have := hz0.out; simp [World.frozen?, this]
      have f2 : wr.frozen? ⟨w.heap.size + 1, 2, none⟩ = false := by have := hz0.out; simp [World.frozen?, this]
      have hblk : Hid ((((wr.setCell ⟨w.heap.size + 1, 0, none⟩ (.int .i64 i)).setCell ⟨w.heap.size + 1, 1, none⟩ (.int .i64 o)).setCell ⟨w.heap.size + 1, 2, none⟩ (.slice A' s c')).heap[w.heap.size + 1]? = some (.cells #[.int .i64 i, .int .i64 o, .slice A' s c'] 30)) := by
        have := hz0.out
        show _ = _
        simp [World.setCell, Array.getElem?_modify, this]
      have hk1 := (hBl.out.kept (grown_setCell wr ⟨w.heap.size + 1, 0, none⟩ (.int .i64 i)) (by show w.heap.size + 1 < _; omega)).kept (grown_setCell _ ⟨w.heap.size + 1, 1, none⟩ (.int .i64 o)) (by show w.heap.size + 1 < _; omega)
      have hk2 := hk1.kept (grown_setCell _ ⟨w.heap.size + 1, 2, none⟩ (.slice A' s c')) (by show w.heap.size + 1 < _; omega)
      rw [List.take_of_length_le (by have := hTl.out; omega)] at hk2
      have hk3 := Lib.hid hk2
      have hbf : Below w.heap.size w (((wr.setCell ⟨w.heap.size + 1, 0, none⟩ (.int .i64 i)).setCell ⟨w.heap.size + 1, 1, none⟩ (.int .i64 o)).setCell ⟨w.heap.size + 1, 2, none⟩ (.slice A' s c')) :=
        (((boxP_below hbr).setCell (p := ⟨w.heap.size + 1, 0, none⟩) (by show w.heap.size ≤ w.heap.size + 1; omega) _).setCell (p := ⟨w.heap.size + 1, 1, none⟩) (by show w.heap.size ≤ w.heap.size + 1; omega) _).setCell (p := ⟨w.heap.size + 1, 2, none⟩) (by show w.heap.size ≤ w.heap.size + 1; omega) _
      clear hk1 hk2
      go_wp2
      obtain ⟨W, hW⟩ : ∃ W, (((wr.setCell ⟨w.heap.size + 1, 0, none⟩ (.int .i64 i)).setCell ⟨w.heap.size + 1, 1, none⟩ (.int .i64 o)).setCell ⟨w.heap.size + 1, 2, none⟩ (.slice A' s c')) = W := ⟨_, rfl⟩
      rw [hW] at hblk hk3 hbf ⊢
      clear hW
      have e0 : W.cell? ⟨w.heap.size + 1, 0, none⟩ = some (.int .i64 i) := by rw [cell_of_row _ _ _ _ _ _ hblk.out]; rfl
      have e1 : W.cell? ⟨w.heap.size + 1, 1, none⟩ = some (.int .i64 o) := by rw [cell_of_row _ _ _ _ _ _ hblk.out]; rfl
      have e2 : W.cell? ⟨w.heap.size + 1, 2, none⟩ = some (.slice A' s c') := by rw [cell_of_row _ _ _ _ _ _ hblk.out]; rfl
      refine bodyPost_ret (by simp [results, Try.results23, go_sem, e0, e1, e2]; rfl) rfl ?_
      exact hpost.out _ _ ⟨.slice A' s c', vs, rfl, hk3.out.base (by omega), hbf⟩
end Go.Proofs.Ythemaombpddbbaa

namespace Go.Proofs.Ythemaombpddbbaa
open Go.RowKit
open Mc (Ed Ma)

/-- A machine that reads as the one with some states. -/
def PrtP (w : World) (m : Ma) (i o : Int) (l : List Int) (e : Ending) (w' : World) : Prop := ∃ B k d, e = .returned (.agg #[.int .i64 i, .int .i64 o, .slice B k d]) ∧ Hid (l.length = k) ∧ RdR w' B (Mc.prt m l).r ∧ Below w.heap.size w w'
def PrtB (w : World) (m : Ma) (i o : Int) (l : List Int) (e : Ending) (w' : World) : Prop := ∃ B k d vs, e = .returned (.agg #[.int .i64 i, .int .i64 o, .slice B k d]) ∧ Hid (l.length = k) ∧ Hid (Bld w' w.heap.size (.slice B k d) (Mc.prt m l).r vs) ∧ Below w.heap.size w w'
theorem Bld.rd_at {w : World} {base k d : Nat} {B : Option Addr} {rs : List (List Ed)} {vs : List Value} (h : Bld w base (.slice B k d) rs vs) : RdR w B rs := by
  obtain ⟨A, c, hv, _, _, _, hr⟩ := h.rd
  injection hv with hv
  rw [hv]
  exact hr
theorem partB_at (m : Ma) (i o : Nat) (l : List Int) (A B : Option Addr) (nm c k d : Nat) (w : World) (V : Mc.Val m) (hi : m.i = i) (ho : m.o = o) (hnm : m.r.length = nm) (hr : RdR w A m.r) (hB : Rd w B l) (hk : l.length = k) (hd : l.Nodup) (hrg : ∀ s ∈ l, 0 ≤ s ∧ s < m.r.length) :
    Calls Try.prog 23 #[.agg #[.int .i64 i, .int .i64 o, .slice A nm c], .slice B k d] w (PrtB w m i o l) := by
  refine (rpart_any m i o l A B nm c k d w V hi ho hnm hr hB hk hd hrg).mono ?_
  rintro e w' ⟨V1, vs, rfl, hW, hb⟩
  obtain ⟨B1, d1, rfl, _⟩ := hW.out.rd
  refine ⟨B1, (Mc.prt m l).r.length, d1, vs, ?_, (Mc.prt_len m l).symm, hW, hb⟩
  show Ending.returned (.agg #[.int .i64 m.i, .int .i64 m.o, .slice B1 (Mc.prt m l).r.length d1]) = _
  rw [hi, ho]
theorem part_at (m : Ma) (i o : Nat) (l : List Int) (A B : Option Addr) (nm c k d : Nat) (w : World) (V : Mc.Val m) (hi : m.i = i) (ho : m.o = o) (hnm : m.r.length = nm) (hr : RdR w A m.r) (hB : Rd w B l) (hk : l.length = k) (hd : l.Nodup) (hrg : ∀ s ∈ l, 0 ≤ s ∧ s < m.r.length) :
    Calls Try.prog 23 #[.agg #[.int .i64 i, .int .i64 o, .slice A nm c], .slice B k d] w (PrtP w m i o l) := by
  refine (partB_at m i o l A B nm c k d w V hi ho hnm hr hB hk hd hrg).mono ?_
  rintro e w' ⟨B1, k1, d1, vs, rfl, hk1, hW, hb⟩
  exact ⟨B1, k1, d1, rfl, hk1, hW.out.rd_at, hb⟩
set_option maxRecDepth 100000 in
set_option maxHeartbeats 2000000 in
theorem rcanon_at (m : Ma) (i o : Nat) (A : Option Addr) (nm c : Nat) (w : World) (V : Mc.Val m) (hi : m.i = i) (ho : m.o = o) (hnm : m.r.length = nm) (hr : RdR w A m.r) :
    Calls Try.prog 18 #[.agg #[.int .i64 i, .int .i64 o, .slice A nm c]] w (PrtP w m i o (Mc.ord m)) := by
  obtain ⟨hb0, hM1, hZ1⟩ := boxZ_lies w i o A nm c
  have C2 : ∀ w1, RdR w1 A m.r → Calls Try.prog 59 #[.agg #[.int .i64 i, .int .i64 o, .slice A nm c]] w1 (Ordd w1 m) := fun w1 h => by
    have := order_any m A c w1 V h
    rwa [hi, ho, hnm] at this
  have C4 := Lib.hid (fun B k d w1 h1 h2 h3 => partB_at m i o (Mc.ord m) A B nm c k d w1 V hi ho hnm h1 h2 h3 (Mc.ord_cls V).nd (Mc.ord_cls V).rg)
  have HO := Lib.hid (fun L (h : Mc.Ord m L) => h.uniq (Mc.ord_ord V))
  obtain ⟨q0, q1, q2⟩ := hM1.cells
  clear V hi ho hnm
  have HC2 := Lib.hid (C2 (boxZ w i o A nm c).drew (hr.below (below_next hb0 (Below.refl _ _).drew)))
  have hzl := heap_lt hM1
  have hzz := heap_lt hZ1
  clear C2
  go_enter Try.func18, Try.ntmps18
  go_wp2_with fail
  obtain ⟨w1, hw1⟩ : ∃ w1, boxZ w i o A nm c = w1 := ⟨_, rfl⟩
  rw [show (boxM w i o A nm c).alloc (.cells #[.int .i64 0, .int .i64 0, .slice none 0 0] 30) = w1 from hw1]
  rw [hw1] at hb0 hM1 hZ1 q0 q1 q2 HC2 hzl hzz
  clear hw1
  go_region_held3 (fun w' => w'.cell? ⟨w.heap.size, 0, none⟩ = some (.int .i64 i) ∧ w'.cell? ⟨w.heap.size, 1, none⟩ = some (.int .i64 o) ∧ w'.cell? ⟨w.heap.size, 2, none⟩ = some (.slice A nm c))
    (first | exact ⟨m0, m1, m2⟩ | exact ⟨k0, k1, k2⟩ | exact ⟨g0, g1, g2⟩ | exact ⟨q0, q1, q2⟩ | go_keep)
    (first
      | (go_at_call 59
         (with_reducible refine (HC2.out).mono ?_)
         rintro e w2 ⟨V1, L, rfl, hO, hL, hb3⟩
         have hb3' : Below w1.heap.size w1 w2 := below_next (Below.refl _ _).drew hb3
         have g0 := (hb3'.cell (p := ⟨w.heap.size, 0, none⟩) (by show w.heap.size < _; omega)).trans q0
         have g1 := (hb3'.cell (p := ⟨w.heap.size, 1, none⟩) (by show w.heap.size < _; omega)).trans q1
         have g2 := (hb3'.cell (p := ⟨w.heap.size, 2, none⟩) (by show w.heap.size < _; omega)).trans q2
         have hb4 := below_next hb0 hb3'
         have hM2 := hM1.mvB hb3'
         have hZ2 := hZ1.mvB hb3'
         obtain ⟨g, d, hV1, _⟩ := own_formI hO.out
         subst hV1
         have hLo := HO.out L hL.out
         subst hLo
         have HC5 := Lib.hid (C4.out g _ d w2 (hr.below hb4) (Rd.of_own hO.out) rfl)
         dsimp only)
      | (go_at_call 23
         (with_reducible refine (HC5.out).mono ?_)
         rintro e w3 ⟨B3, k, d3, vs, rfl, hk, hR3, hb5⟩
         have hb6 := below_next hb4 hb5
         have hM3 := hM2.mvB hb5
         have hZ3 := hZ2.mvB hb5
         obtain ⟨k0, k1, k2⟩ := hM3.cells
         obtain ⟨z0, z1, z2⟩ := hZ3.cells
         obtain ⟨f0, f1, f2⟩ := hZ3.frozen
         have mm9 := fun (b o' : Nat) (h : b ≠ w.heap.size + 1) => World.cell?_of_block (w := w3) (w' := ((w3.setCell ⟨w.heap.size + 1, 0, none⟩ (.int .i64 i)).setCell ⟨w.heap.size + 1, 1, none⟩ (.int .i64 o)).setCell ⟨w.heap.size + 1, 2, none⟩ (.slice B3 k d3)) (a := ⟨b, o', none⟩) ((Below.heap_setCell _ ⟨w.heap.size + 1, 2, none⟩ _ b h).trans ((Below.heap_setCell _ ⟨w.heap.size + 1, 1, none⟩ _ b h).trans (Below.heap_setCell _ ⟨w.heap.size + 1, 0, none⟩ _ b h)))
         have m0 := (mm9 w.heap.size 0 (by omega)).trans k0
         have m1 := (mm9 w.heap.size 1 (by omega)).trans k1
         have m2 := (mm9 w.heap.size 2 (by omega)).trans k2
         dsimp only)
      | fail)
  obtain ⟨r0, r1, r2⟩ := set3_reads hZ3 (.int .i64 i) (.int .i64 o) (.slice B3 k d3)
  have hfin : Hid (PrtP w m i o (Mc.ord m) (.returned (.agg #[.int .i64 i, .int .i64 o, .slice B3 k d3])) (((w3.setCell ⟨w.heap.size + 1, 0, none⟩ (.int .i64 i)).setCell ⟨w.heap.size + 1, 1, none⟩ (.int .i64 o)).setCell ⟨w.heap.size + 1, 2, none⟩ (.slice B3 k d3))) := by
    have hz2 := heap_lt hZ2
    have h1 := ((hR3.out.kept (grown_setCell w3 ⟨w.heap.size + 1, 0, none⟩ (.int .i64 i)) (by show w.heap.size + 1 < _; omega)).kept (grown_setCell _ ⟨w.heap.size + 1, 1, none⟩ (.int .i64 o)) (by show w.heap.size + 1 < _; omega)).kept (grown_setCell _ ⟨w.heap.size + 1, 2, none⟩ (.slice B3 k d3)) (by show w.heap.size + 1 < _; omega)
    exact ⟨B3, k, d3, rfl, hk.out, h1.rd_at, below_set3' hb6 (by omega) _ _ _⟩
  clear q0 q1 q2 g0 g1 g2 k0 k1 k2 m0 m1 m2 mm9 z0 z1 z2 f0 f1 f2 hR3 hb6 hb5 hM3 hZ3 hM2 hZ2 hM1 hZ1
  go_wp2
  refine bodyPost_ret (v := .agg #[.int .i64 i, .int .i64 o, .slice B3 k d3]) (by simp [results, Try.f18, go_sem, r0, r1, r2]) rfl ?_
  exact hfin.out
end Go.Proofs.Ythemaombpddbbaa

namespace Go.Proofs.Ythemaombpddbbaa
open Go.RowKit
open Mc (Ed Ma)
namespace Mc

/-- The states in their order. -/
def iota (n : Nat) : List Int := (List.range n).map fun (j : Nat) => (j : Int)
theorem iota_len (n : Nat) : (iota n).length = n := by simp [iota]
theorem iota_at {n k : Nat} (h : k < n) : (iota n)[k]? = some (k : Int) := by simp [iota, h]
theorem iota_snoc (n : Nat) : iota (n + 1) = iota n ++ [(n : Int)] := by simp [iota, List.range_succ]
theorem iota_mem {n : Nat} {s : Int} : s ∈ iota n ↔ 0 ≤ s ∧ s < n := by
  constructor
  · intro h
    obtain ⟨j, hj, rfl⟩ := List.mem_map.1 h
    have := List.mem_range.1 hj
    omega
  · intro h
    exact List.mem_map.2 ⟨s.toNat, List.mem_range.2 (by omega), by omega⟩
theorem iota_nd (n : Nat) : (iota n).Nodup := by
  induction n with
  | zero => exact List.nodup_nil
  | succ n ih =>
    rw [iota_snoc]
    refine List.nodup_append.2 ⟨ih, by simp, fun a ha b hb => ?_⟩
    have := iota_mem.1 ha
    obtain rfl : b = n := by simpa using hb
    omega
theorem iota_ix {n : Nat} {s : Int} (h : s = -1 ∨ (0 ≤ s ∧ s < n)) : ix (iota n) s = s := by
  rcases h with rfl | h
  · exact ix_none fun hm => by have := iota_mem.1 hm; omega
  · obtain ⟨j, rfl⟩ := Int.eq_ofNat_of_zero_le h.1
    exact ix_at (iota_nd n) (iota_at (by omega))
theorem prt_iota {m : Ma} (v : Val m) : prt m (iota m.r.length) = m := by
  have : (prt m (iota m.r.length)).r = m.r := by
    refine List.ext_getElem (by rw [prt_len, iota_len]) fun s h1 h2 => ?_
    have h3 : (prt m (iota m.r.length)).r[s] = ((m.r[s]?).getD []).map fun x => (ix (iota m.r.length) x.1, x.2) := by
      simp [prt, iota]
    rw [h3, List.getElem?_eq_getElem h2, Option.getD_some]
    refine List.ext_getElem (by simp) fun j h4 h5 => ?_
    rw [List.getElem_map]
    have hx := v.ok m.r[s] (List.getElem_mem h2) (m.r[s])[j] (List.getElem_mem h5)
    have hi : ix (iota m.r.length) (m.r[s])[j].1 = (m.r[s])[j].1 := iota_ix (by omega)
    rw [hi]
  show Ma.mk m.i m.o (prt m (iota m.r.length)).r = m
  rw [this]
theorem adj_iota {n : Nat} {l : List Int} (hn : l.length = n) (hd : l.Nodup) (hr : ∀ s ∈ l, 0 ≤ s ∧ s < n) (ha : Adj l) : l = iota n := by
  have lt : ∀ k (h : k + 1 < l.length), l[k] < l[k + 1] := fun k h => by
    have h1 := ha k l[k] l[k + 1] (List.getElem?_eq_getElem _) (List.getElem?_eq_getElem _)
    have h2 : l[k] ≠ l[k + 1] := fun e => by
      have h3 := ix_at hd (List.getElem?_eq_getElem (show k < l.length by omega))
      have h4 := ix_at hd (List.getElem?_eq_getElem h)
      rw [e] at h3
      omega
    omega
  have lo : ∀ k (h : k < l.length), (k : Int) ≤ l[k] := fun k => by
    induction k with
    | zero => intro h; exact (hr _ (List.getElem_mem h)).1
    | succ k ih => intro h; have := ih (by omega); have := lt k h; omega
  have hi : ∀ j k (h : k < l.length), k + j + 1 = l.length → l[k] ≤ (k : Int) := fun j => by
    induction j with
    | zero => intro k h e; have := (hr _ (List.getElem_mem h)).2; omega
    | succ j ih => intro k h e; have := ih (k + 1) (by omega) (by omega); have := lt k (by omega); omega
  refine List.ext_getElem (by rw [hn, iota_len]) fun k h1 h2 => ?_
  have h3 := lo k h1
  have h4 := hi (l.length - k - 1) k h1 (by omega)
  have h5 : (iota n)[k] = (k : Int) := by simp [iota]
  omega
theorem ord_le {m : Ma} (v : Val m) : (ord m).length ≤ m.r.length := nodup_le m.r.length _ (ord_cls v).nd (ord_cls v).rg
theorem can_val {m : Ma} (v : Val m) : Val (prt m (ord m)) := prt_val v (ord_cls v) (ord_pos v) (by have := ord_le v; have := v.r1; omega)
theorem can_ord {m : Ma} (v : Val m) : ord (prt m (ord m)) = iota (ord m).length :=
  (ord_ord (can_val v)).uniq (canon_own v (ord_ord v)).1
theorem can_can {m : Ma} (v : Val m) : prt (prt m (ord m)) (ord (prt m (ord m))) = prt m (ord m) := by
  rw [can_ord v]
  exact (canon_own v (ord_ord v)).2
theorem can_len {m : Ma} (v : Val m) : (ord (prt m (ord m))).length = (ord m).length := by rw [can_ord v, iota_len]
theorem canB_yes {m : Ma} (v : Val m) : canB (prt m (ord m)) = true := by
  rw [canB_iff, can_ord v, iota_len, prt_len]
  refine ⟨rfl, fun k a b h1 h2 => ?_⟩
  have h3 := (List.getElem?_eq_some_iff.1 h1).1
  have h4 := (List.getElem?_eq_some_iff.1 h2).1
  rw [iota_len] at h3 h4
  rw [iota_at h3] at h1
  rw [iota_at h4] at h2
  injection h1 with h1
  injection h2 with h2
  omega
theorem canB_eq {m : Ma} (v : Val m) : canB m = decide (m = prt m (ord m)) := by
  by_cases h : m = prt m (ord m)
  · rw [decide_eq_true h, h]
    exact canB_yes v
  · rw [decide_eq_false h]
    cases hc : canB m with
    | false => rfl
    | true =>
      obtain ⟨h1, h2⟩ := (canB_iff m).1 hc
      have h3 := adj_iota h1 (ord_cls v).nd (ord_cls v).rg h2
      exact absurd (by rw [h3, prt_iota v]) h
theorem can_run {m : Ma} (v : Val m) {w : List Int} (hw : Wd m w) : run (prt m (ord m)) 0 w = run m 0 w :=
  (prt_aft v (ord_cls v) ((ord_ord v).zero v.i0) hw).2

/-- All states, the initial one first. -/
structure Prm (n : Nat) (L : List Int) : Prop where
  len : L.length = n
  rg : ∀ s ∈ L, 0 ≤ s ∧ s < n
  nd : L.Nodup
  z : L[0]? = some 0
theorem Prm.iota {n : Nat} (h : 1 ≤ n) : Prm n (iota n) := ⟨iota_len n, fun _ hs => iota_mem.1 hs, iota_nd n, iota_at h⟩
theorem Prm.swap {n : Nat} {L : List Int} (h : Prm n L) {a b : Nat} {x y : Int} (ha : 1 ≤ a) (hb : 1 ≤ b) (hx : L[a]? = some x) (hy : L[b]? = some y) : Prm n ((L.set a y).set b x) := by
  obtain ⟨ha1, rfl⟩ := List.getElem?_eq_some_iff.1 hx
  obtain ⟨hb1, rfl⟩ := List.getElem?_eq_some_iff.1 hy
  have hp : ((L.set a L[b]).set b L[a]).Perm L := List.set_set_perm ha1 hb1
  refine ⟨by rw [List.length_set, List.length_set]; exact h.len, fun s hs => h.rg s (hp.mem_iff.1 hs), hp.nodup_iff.2 h.nd, ?_⟩
  rw [List.getElem?_set_ne (by omega), List.getElem?_set_ne (by omega)]
  exact h.z
theorem Prm.all {n : Nat} {L : List Int} (h : Prm n L) {s : Int} (hs : 0 ≤ s ∧ s < n) : s ∈ L := by
  by_cases hm : s ∈ L
  · exact hm
  · have := nodup_le n (s :: L) (List.nodup_cons.2 ⟨hm, h.nd⟩) (fun t ht => by
      rcases List.mem_cons.1 ht with rfl | ht
      · exact hs
      · exact h.rg t ht)
    rw [List.length_cons, h.len] at this
    omega
theorem Prm.cls {m : Ma} (v : Val m) {L : List Int} (h : Prm m.r.length L) : Cls m L :=
  ⟨h.nd, h.rg, fun s hs c h1 h2 h3 => h.all (by
    obtain ⟨a, _⟩ := nx_st v (s := s) (i := c) (Or.inr (h.rg s hs)) ⟨h1, h2⟩
    rcases a with a | a
    · omega
    · exact a)⟩
theorem Prm.val {m : Ma} (v : Val m) {L : List Int} (h : Prm m.r.length L) : Val (prt m L) :=
  prt_val v (h.cls v) (by rw [h.len]; exact v.r0) (by rw [h.len]; exact v.r1)
/-- However the states but the initial one are numbered, the canonical form is the same. -/
theorem Prm.can {m : Ma} (v : Val m) {L : List Int} (h : Prm m.r.length L) : prt (prt m L) (ord (prt m L)) = prt m (ord m) :=
  canon_any v (h.cls v) h.z (ord_ord v) (ord_ord (h.val v))
end Mc

section
variable (m : Ma) (i o : Int) (A : Option Addr) (n c : Nat) (w : World)
theorem canon_at (v : Mc.Val m) (hi : m.i = i) (ho : m.o = o) (hn : m.r.length = n) (hr : RdR w A m.r) :
    Calls Try.prog 16 #[.agg #[.int .i64 i, .int .i64 o, .slice A n c]] w fun e w' => ∃ p k, e = .returned (.tuple #[.agg #[.int .i64 i, .int .i64 o, .slice (some ⟨p, 0, none⟩) k k], .int .i64 0]) ∧ Hid ((Mc.ord m).length = k) ∧ Ex w' p k (Mc.prt m (Mc.ord m)).r ∧ Below w.heap.size w w' := by
  subst hi ho hn
  refine (wcanon_ok m A c w v hr).mono ?_
  rintro e w' ⟨p, k, gs, rfl, hk, hg, hW, hb⟩
  have hv := Mc.can_val v
  have hl : (Mc.prt m (Mc.ord m)).r.length = k := by rw [Mc.prt_len]; exact hk.out
  exact ⟨p, k, rfl, hk, ⟨gs, hg.out, hl, by have := hv.r1; omega, hv.rows, hW.out.lower (Nat.zero_le _)⟩, hb⟩
theorem canon_hi (C : Ma) (K : Nat) (v : Mc.Val m) (hi : m.i = i) (ho : m.o = o) (hn : m.r.length = n) (hr : RdR w A m.r) (hC : Mc.prt m (Mc.ord m) = C) (hK : C.r.length = K) :
    Calls Try.prog 16 #[.agg #[.int .i64 i, .int .i64 o, .slice A n c]] w fun e w' => ∃ p gs, e = .returned (.tuple #[.agg #[.int .i64 i, .int .i64 o, .slice (some ⟨p, 0, none⟩) K K], .int .i64 0]) ∧ Hid (gs.length = K) ∧ Hid (Wb w.heap.size p K C.r gs w') ∧ Below w.heap.size w w' := by
  subst hi ho hn
  refine (wcanon_ok m A c w v hr).mono ?_
  rintro e w' ⟨p, k, gs, rfl, hk, hg, hW, hb⟩
  have e1 : k = K := by rw [← hK, ← hC, Mc.prt_len]; exact hk.out.symm
  subst e1 hC
  exact ⟨p, gs, rfl, hg, hW, hb⟩
theorem Ex.of (hv : Mc.Val m) {K p base : Nat} {gs : List Nat} (hK : m.r.length = K) (hg : gs.length = K) {W : World} (hW : Wb base p K m.r gs W) : Ex W p K m.r :=
  ⟨gs, hg, hK, by have := hv.r1; omega, hv.rows, hW.lower (Nat.zero_le _)⟩
theorem canon_to (C : Ma) (K : Nat) (v : Mc.Val m) (hi : m.i = i) (ho : m.o = o) (hn : m.r.length = n) (hr : RdR w A m.r) (hC : Mc.prt m (Mc.ord m) = C) (hK : C.r.length = K) :
    Calls Try.prog 16 #[.agg #[.int .i64 i, .int .i64 o, .slice A n c]] w fun e w' => ∃ p, e = .returned (.tuple #[.agg #[.int .i64 i, .int .i64 o, .slice (some ⟨p, 0, none⟩) K K], .int .i64 0]) ∧ Ex w' p K C.r ∧ Below w.heap.size w w' := by
  refine (canon_hi m i o A n c w C K v hi ho hn hr hC hK).mono ?_
  rintro e w' ⟨p, gs, rfl, hg, hW, hb⟩
  exact ⟨p, rfl, Ex.of C (hC ▸ Mc.can_val v) hK hg.out hW.out, hb⟩
theorem rcanon_to (i' o' : Nat) (C : Ma) (K : Nat) (v : Mc.Val m) (hi : m.i = i') (ho : m.o = o') (hn : m.r.length = n) (hr : RdR w A m.r) (hC : Mc.prt m (Mc.ord m) = C) (hK : C.r.length = K) :
    Calls Try.prog 18 #[.agg #[.int .i64 i', .int .i64 o', .slice A n c]] w fun e w' => ∃ B d, e = .returned (.agg #[.int .i64 i', .int .i64 o', .slice B K d]) ∧ RdR w' B C.r ∧ Below w.heap.size w w' := by
  refine (rcanon_at m i' o' A n c w v hi ho hn hr).mono ?_
  rintro e w' ⟨B, k, d, rfl, hk, hR, hb⟩
  have e1 : k = K := by rw [← hK, ← hC, Mc.prt_len]; exact hk.out.symm
  subst e1 hC
  exact ⟨B, d, rfl, hR, hb⟩
theorem iscan_at (v : Mc.Val m) (hi : m.i = i) (ho : m.o = o) (hn : m.r.length = n) (hr : RdR w A m.r) :
    Calls Try.prog 21 #[.agg #[.int .i64 i, .int .i64 o, .slice A n c]] w fun e w' => e = .returned (.tuple #[.bool (Mc.canB m), .int .i64 0]) ∧ Below w.heap.size w w' := by
  subst hi ho hn
  exact wiscan_ok m A c w v hr
end
end Go.Proofs.Ythemaombpddbbaa

namespace Go.Proofs.Ythemaombpddbbaa
open Go.RowKit
open Mc (Ed Ma)

abbrev set3 (w : World) (g : Nat) (x y v : Value) : World := ((w.setCell ⟨g, 0, none⟩ x).setCell ⟨g, 1, none⟩ y).setCell ⟨g, 2, none⟩ v
theorem BxM.set3 {w : World} {g n c n' c' : Nat} {i o i' o' : Int} {A A' : Option Addr} (h : BxM w g i o A n c) : BxM (set3 w g (.int .i64 i') (.int .i64 o') (.slice A' n' c')) g i' o' A' n' c' := by
  unfold BxM at h ⊢
  simp [World.setCell, Array.getElem?_modify, h]
theorem below_set3 {a w : World} {B g : Nat} (h : Below B a w) (hB : B ≤ g) (x y v : Value) : Below B a (set3 w g x y v) :=
  ((h.setCell (p := ⟨g, 0, none⟩) hB _).setCell (p := ⟨g, 1, none⟩) hB _).setCell (p := ⟨g, 2, none⟩) hB _
theorem Bld.set3 {w : World} {base g : Nat} {V : Value} {rs : List (List Ed)} {vs : List Value} (h : Bld w base V rs vs) (hg : g < base) (x y v : Value) : Bld (set3 w g x y v) base V rs vs :=
  ((h.kept (grown_setCell w ⟨g, 0, none⟩ x) hg).kept (grown_setCell _ ⟨g, 1, none⟩ y) hg).kept (grown_setCell _ ⟨g, 2, none⟩ v) hg
theorem Bld.two {w : World} {base : Nat} {B : Option Addr} {rs : List (List Ed)} {vs : List Value} {n c : Nat} (h : Bld w base (.slice B n c) rs vs) : RdR w B rs := by
  obtain ⟨A', c', e1, _, _, _, hr'⟩ := h.rd
  injection e1 with e1
  subst e1
  exact hr'
abbrev zM : Obj := .cells #[.int .i64 0, .int .i64 0, .slice none 0 0] 30
theorem bA {w w' : World} (h : Below w.heap.size w w') (o : Obj) : Below w.heap.size w (w'.alloc o) := h.alloc h.size o
theorem bD {w w' : World} (h : Below w.heap.size w w') : Below w.heap.size w w'.drew := h.drew
theorem bS {w w' : World} (h : Below w.heap.size w w') {g j : Nat} (hg : w.heap.size ≤ g) (v : Value) : Below w.heap.size w (w'.setCell ⟨g, j, none⟩ v) := h.setCell (p := ⟨g, j, none⟩) hg v
/-- Between a mark and the end of an older world nothing has changed. -/
structure Mid (base : Nat) (a w : World) : Prop where
  sz : a.heap.size ≤ w.heap.size
  eq : ∀ b, base ≤ b → b < a.heap.size → w.heap[b]? = a.heap[b]?
section
variable {base : Nat} {a w w' : World}
theorem Mid.refl (base : Nat) (a : World) : Mid base a a := ⟨Nat.le_refl _, fun _ _ _ => rfl⟩
theorem Mid.alloc (h : Mid base a w) (o : Obj) : Mid base a (w.alloc o) := ⟨by have := h.sz; simp; omega, fun b h1 h2 => (Below.heap_alloc _ _ _ (by have := h.sz; omega)).trans (h.eq b h1 h2)⟩
theorem Mid.drew (h : Mid base a w) : Mid base a w.drew := ⟨h.sz, h.eq⟩
theorem Mid.next (h : Mid base a w) (k : Below w.heap.size w w') : Mid base a w' := ⟨Nat.le_trans h.sz k.size, fun b h1 h2 => (k.block b (by have := h.sz; omega)).trans (h.eq b h1 h2)⟩
theorem Mid.set (h : Mid base a w) {p : Addr} (hg : p.block < base ∨ a.heap.size ≤ p.block) (v : Value) : Mid base a (w.setCell p v) := ⟨by simpa [World.setCell] using h.sz, fun b h1 h2 => (Below.heap_setCell _ _ _ _ (by omega)).trans (h.eq b h1 h2)⟩
theorem Mid.set3 (h : Mid base a w) {g : Nat} (hg : g < base ∨ a.heap.size ≤ g) (x y v : Value) : Mid base a (Go.Proofs.Ythemaombpddbbaa.set3 w g x y v) := ((h.set (p := ⟨g, 0, none⟩) hg x).set (p := ⟨g, 1, none⟩) hg y).set (p := ⟨g, 2, none⟩) hg v
theorem ownsRow_mid {e : TypeId} {s n : Nat} {v : Value} {xs : List Value} (h : a.ownsRow base e s v n xs) (m : Mid base a w) : w.ownsRow base e s v n xs := by
  refine ⟨h.1, ?_⟩
  rcases h.2 with h0 | ⟨g, cap, cur, e1, hb, hg, rest⟩
  · exact .inl h0
  · exact .inr ⟨g, cap, cur, e1, hb, (m.eq g hb (heap_lt hg)).trans hg, rest⟩
theorem Bld.mid {V : Value} {rs : List (List Ed)} {vs : List Value} (h : Bld a base V rs vs) (m : Mid base a w) : Bld w base V rs vs :=
  ⟨ownsRow_mid h.1 m, fun k row hk => by
    obtain ⟨g, c, h1, h2⟩ := h.2 k row hk
    exact ⟨g, c, h1, ownsRow_mid h2 m⟩⟩
end
section
variable {w w' : World} {g G n c : Nat} {i o : Int} {A : Option Addr}
theorem BxM.al (h : BxM w g i o A n c) (ob : Obj) : BxM (w.alloc ob) g i o A n c := (Below.heap_alloc _ _ _ (heap_lt h)).trans h
theorem BxM.to (h : BxM w g i o A n c) (k : Below w.heap.size w w') : BxM w' g i o A n c := (k.block _ (heap_lt h)).trans h
theorem BxM.newB2 (w : World) (ob : Obj) (i o : Int) (A : Option Addr) (n c : Nat) : BxM ((w.alloc ob).alloc (.cells #[.int .i64 i, .int .i64 o, .slice A n c] 30)) (w.heap.size + 1) i o A n c := by
  have h := heap_alloc_new (w.alloc ob) (.cells #[.int .i64 i, .int .i64 o, .slice A n c] 30)
  rw [World.size_alloc] at h
  exact h
theorem BxM.newS (w : World) (h : Nat) (x y v : Value) (i o : Int) (A : Option Addr) (n c : Nat) : BxM ((Go.Proofs.Ythemaombpddbbaa.set3 w h x y v).alloc (.cells #[.int .i64 i, .int .i64 o, .slice A n c] 30)) w.heap.size i o A n c := by
  have e : (Go.Proofs.Ythemaombpddbbaa.set3 w h x y v).heap.size = w.heap.size := by simp [World.setCell]
  have h := heap_alloc_new (Go.Proofs.Ythemaombpddbbaa.set3 w h x y v) (.cells #[.int .i64 i, .int .i64 o, .slice A n c] 30)
  rw [e] at h
  exact h
theorem BxM.toD (h : BxM w g i o A n c) (k : Below w.drew.heap.size w.drew w') : BxM w' g i o A n c := (k.block _ (heap_lt h)).trans h
/-- What a box of the call's own holds, and that it may be written. -/
theorem BxM.all (h : BxM w g i o A n c) : (w.cell? ⟨g, 0, none⟩ = some (.int .i64 i) ∧ w.cell? ⟨g, 1, none⟩ = some (.int .i64 o) ∧ w.cell? ⟨g, 2, none⟩ = some (.slice A n c)) ∧ (w.frozen? ⟨g, 0, none⟩ = false ∧ w.frozen? ⟨g, 1, none⟩ = false ∧ w.frozen? ⟨g, 2, none⟩ = false) ∧ g < w.heap.size := ⟨h.cells, h.frozen, heap_lt h⟩
theorem BxM.far3 (h : BxM w g i o A n c) (hne : g ≠ G) (x y v : Value) : BxM (Go.Proofs.Ythemaombpddbbaa.set3 w G x y v) g i o A n c := (Below.heap_setCell _ _ _ _ hne).trans ((Below.heap_setCell _ _ _ _ hne).trans ((Below.heap_setCell _ _ _ _ hne).trans h))
theorem BxM.new1 (w : World) : BxM (w.alloc zM) w.heap.size 0 0 none 0 0 := heap_alloc_new w _
theorem BxM.new2 (w : World) (ob : Obj) : BxM ((w.alloc ob).alloc zM) (w.heap.size + 1) 0 0 none 0 0 := by
  have h := heap_alloc_new (w.alloc ob) zM
  rw [World.size_alloc] at h
  exact h
end
/-- What Of hands back, in memory of its own, in the words of a walk. -/
theorem mofB_at (a b d : Int) (p : Bool) (A : Option Addr) (c : Nat) (es : List Int) (n i o : Nat) (w : World) (hr : Rd16 w A es) (hl : es.length ≤ 9223372036854775807) (ha : 0 ≤ a ∧ a ≤ 255) (hb : 0 ≤ b ∧ b ≤ 255) (hd : 0 ≤ d ∧ d ≤ 255)
    (hn : 1 + a % 6 = n) (hi : 1 + b % 3 = i) (ho : 1 + d % 3 = o) :
    Calls Try.prog 14 #[.agg #[.int .u8 a, .int .u8 b, .int .u8 d, .bool p, .slice A es.length c]] w fun e w' => ∃ B k vs, e = .returned (.agg #[.int .i64 i, .int .i64 o, .slice B n k]) ∧ Hid (Bld w' w.heap.size (.slice B n k) (Mc.mkN p n i o es).r vs) ∧ Below w.heap.size w w' := by
  refine (mof_any a b d p A c es n i o w hr hl ha hb hd hn hi ho).mono ?_
  rintro e w' ⟨V, vs, rfl, hB, hbl⟩
  obtain ⟨B, k, rfl, _, _, _, hrd⟩ := hB.out.rd
  rw [Mc.mkN_len] at hB ⊢
  exact ⟨B, k, vs, rfl, hB, hbl⟩
/-- What is known behind the two machines that are made. -/
structure SmR (w : World) (a b : Ma) (G H : Nat) (R S : Option Addr) (n m c d : Nat) (i o i' o' : Int) (wx : World) : Prop where
  ne : G ≠ H
  bg : BxM wx G i o R n c
  bh : BxM wx H i' o' S m d
  ra : RdR wx R a.r
  rb : RdR wx S b.r
  bel : Below w.heap.size w wx

end Go.Proofs.Ythemaombpddbbaa
