/-
  Contracts of the reference of layer 9: Minimal. No statement is proved here.
-/
import Derived.Test.YtiamkkgnjobljaaQfZ
import Derived.Test.YtiamkkgnjobljaaWd0
import Derived.Deep.CutRange
import Derived.Deep.RegionHeld3
namespace Go.Proofs.Ytiamkkgnjobljaa
open Go.RowKit
open Mc (Ed Ma)

theorem qrows {m : Ma} (T : List (List Ed)) (F : List Int) (hT : (Mc.qn m).r = T) (hF : Mc.fst_ m (Mc.ord m) = F) {s : Nat} {a : Int} {row : List Ed} (h1 : F[s]? = some a) (h2 : m.r[a.toNat]? = some row) : T[s]? = some (row.map fun x => (Mc.qm m x.1, x.2)) := by
  rw [← hT]
  show (List.map _ (Mc.fst_ m (Mc.ord m)))[s]? = _
  rw [hF, List.getElem?_map, h1]
  show some (List.map _ ((m.r[a.toNat]?).getD [])) = _
  rw [h2]
  rfl
/-- What the reference's Minimal hands back. -/
def RmP (w : World) (m : Ma) (i o : Int) (e : Ending) (w' : World) : Prop := ∃ V vs, e = .returned (.agg #[.int .i64 i, .int .i64 o, V]) ∧ Hid (Bld w' w.heap.size V (Mc.qn m).r vs) ∧ Below w.heap.size w w'
set_option maxRecDepth 100000 in
set_option maxHeartbeats 4000000 in
theorem rqmin_any (m : Ma) (i : Nat) (o : Int) (A : Option Addr) (n c : Nat) (w : World) (v : Mc.Val m) (hi : m.i = i) (ho : m.o = o) (hn : m.r.length = n) (hr : RdR w A m.r) :
    Calls Try.prog 16 #[.agg #[.int .i64 i, .int .i64 o, .slice A n c]] w (RmP w m i o) := by
  have hi16 : i ≤ 16 := by have := v.i1; omega
  have hi1 : 1 ≤ i := by have := v.i0; omega
  obtain ⟨k0, hk0, hk1, hk2, hk3⟩ := info_parts edge_info
  obtain ⟨r0, hr0, hr1, hr2, hr3⟩ := info_parts row_info
  have HC1 := Lib.hid (fun (wz : World) (h : RdR wz A m.r) => rfirsts_any m i o A n c wz v hi ho hn h)
  have HC2 := Lib.hid (fun (wz : World) (h : RdR wz A m.r) => rqmap_any m i o A n c wz v hi ho hn h)
  have hb0 : Below w.heap.size w (boxZ w i o A n c) := (boxZ_lies w i o A n c).1
  have hM0 := Lib.hid (boxZ_lies w i o A n c).2.1
  have hZ0 := Lib.hid (boxZ_lies w i o A n c).2.2
  have HV := Lib.hid v
  have HI := Lib.hid hi
  have HN := Lib.hid hn
  have hrg : Hid (∀ s ∈ Mc.fst_ m (Mc.ord m), 0 ≤ s ∧ s < n) := fun s hs => by
    have := (Mc.ord_cls v).rg s (Mc.fst_mem hs)
    rwa [hn] at this
  have hk64 : (Mc.fst_ m (Mc.ord m)).length ≤ 64 := by have := Mc.fst_le v (Mc.ord_ord v); have := v.r1; omega
  have hlen0 : (Mc.qn m).r.length = (Mc.fst_ m (Mc.ord m)).length := Mc.mnf_len m _
  obtain ⟨T, hT⟩ : ∃ T, (Mc.qn m).r = T := ⟨_, rfl⟩
  obtain ⟨F, hF⟩ : ∃ F, Mc.fst_ m (Mc.ord m) = F := ⟨_, rfl⟩
  have HTF := Lib.hid (fun (s : Nat) (a : Int) (row : List Ed) (h1 : F[s]? = some a) (h2 : m.r[a.toNat]? = some row) => qrows T F hT hF h1 h2)
  have HT := Lib.hid hT
  rw [hT, hF] at hlen0
  rw [hF] at hrg hk64
  simp only [hF] at HC1
  obtain ⟨k, hk⟩ : ∃ k, F.length = k := ⟨_, rfl⟩
  have HK := Lib.hid hk
  have hTl : Hid (T.length = k) := by show _ = _; rw [hlen0, hk]
  obtain ⟨P0, hP0⟩ : ∃ P0, RmP w m i o = P0 := ⟨_, rfl⟩
  have HP0 := Lib.hid hP0
  rw [hP0]
  rw [hk] at hk64
  obtain ⟨q0, q1, q2⟩ := hM0.out.cells
  have HB := Lib.hid hb0
  clear v hi ho hn hT hF hlen0 hk hP0 hb0
  go_enter Try.func16, Try.ntmps16
  go_wp2_with fail
  refine (HC1.out _ (hr.below HB.out)).mono ?_
  rintro e w1 ⟨V0, rfl, hV, hb1⟩
  obtain ⟨LA, lc, rfl, _⟩ := own_formI hV.out
  have hL1 : Rd w1 LA F := Rd.of_own hV.out
  rw [HK.out]
  have hM1 := Lib.hid (hM0.out.mvB hb1)
  have hZ1 := Lib.hid (hZ0.out.mvB hb1)
  have hB1 := Lib.hid (below_next HB.out hb1)
  clear q0 q1 q2 HC1 hM0 hZ0 HB hV hb1
  obtain ⟨q0, q1, q2⟩ := hM1.out.cells
  go_wp2_with fail
  refine (HC2.out _ (hr.below hB1.out)).mono ?_
  rintro e w2 ⟨TA, tc, rfl, hTo, hb2⟩
  have hLr : Rd w2 LA F := hL1.below hb2
  have hM2 := Lib.hid (hM1.out.mvB hb2)
  have hZ2 := Lib.hid (hZ1.out.mvB hb2)
  have hB2 := Lib.hid (below_next hB1.out hb2)
  clear q0 q1 q2 HC2 hM1 hZ1 hB1 hL1 hb2
  obtain ⟨q0, q1, q2⟩ := hM2.out.cells
  go_wp2_with fail
  obtain ⟨g0, hg0⟩ : ∃ g, w2.heap.size = g := ⟨_, rfl⟩
  have hm0 : w.heap.size < g0 := by rw [← hg0]; exact heap_lt hM2.out
  have hz0 : w.heap.size + 1 < g0 := by rw [← hg0]; exact heap_lt hZ2.out
  have HG0 := Lib.hid hg0
  rw [hg0]
  clear q0 q1 q2 hg0
  go_loopw [6] (fun v wr => ∃ (s : Nat) (V : Value) (vs : List Value), s ≤ k ∧ v = .int .i64 s ∧ Hid (wr.heap[g0]? = some (.cells #[.int .i64 i, .int .i64 o, V] 35)) ∧ Hid (Bld wr (g0 + 1) V (T.take s) vs) ∧ Below g0 w2 wr) (fun v _ => k - (intOf v).toNat)
  case atStart =>
    refine ⟨0, .slice none 0 0, [], Nat.zero_le _, rfl, ?_, Bld.nil_ _ _, (Below.refl _ _).alloc (by rw [HG0.out]; exact Nat.le_refl _) _⟩
    show _ = _
    rw [← HG0.out]
    exact heap_alloc_new w2 _
  case round =>
    obtain ⟨s, V, vs, hs, rfl, hG, hBl, hbr⟩ := hrel
    have hbrw : Below w2.heap.size w2 wr := by rw [HG0.out]; exact hbr
    have hts : (T.take s).length = s := by rw [List.length_take]; have := hTl.out; omega
    obtain ⟨A', c', hV, _⟩ := hBl.out.rd
    rw [hts] at hV
    subst hV
    have hGs : g0 + 1 ≤ wr.heap.size := by
      have := heap_lt hG.out
      omega
    by_cases hsl : s < k
    · have hsk : (s : Int) < k := by omega
      obtain ⟨a, hla⟩ : ∃ a, F[s]? = some a := ⟨_, List.getElem?_eq_getElem (by rw [HK.out]; exact hsl)⟩
      obtain ⟨a', ha'⟩ := Int.eq_ofNat_of_zero_le (hrg.out a (List.mem_of_getElem? hla)).1
      subst ha'
      have han : a' < n := by have := (hrg.out _ (List.mem_of_getElem? hla)).2; omega
      obtain ⟨row, hrow⟩ : ∃ row, m.r[a']? = some row := ⟨_, List.getElem?_eq_getElem (by rw [HN.out]; exact han)⟩
      have hrl : Hid (row.length = i) := by have := HV.out.len row (List.mem_of_getElem? hrow); have := HI.out; show _ = _; omega
      have hTs : Hid (T[s]? = some (row.map fun x => (Mc.qm m x.1, x.2))) := HTF.out s a' row hla hrow
      have HLA := Lib.hid hla
      have HROW := Lib.hid hrow
      have HBRW := Lib.hid hbrw
      clear hla hrow hbrw
      go_wp2
      obtain ⟨wo, rfl⟩ : ∃ wo : World, wo = wr := ⟨_, rfl⟩
      go_loopw [7, 8] (fun u v wr => ∃ (j : Nat) (xs : List Ed) (U : Value), j ≤ i ∧ v = .int .i64 j ∧ U = u ∧ wr.ownsRow wo.heap.size 27 2 U xs.length (eC xs) ∧ Hid (xs = (row.map fun x => (Mc.qm m x.1, x.2)).take j) ∧ Hid (0 < j → U ≠ .slice none 0 0) ∧ Below wo.heap.size wo wr) (fun _ v _ => i - (intOf v).toNat)
      case atStart => exact ⟨0, [], _, Nat.zero_le _, rfl, rfl, World.ownsRow_nil _ _ _ _, rfl, (fun h => absurd h (by omega)), Below.refl _ _⟩
      case round =>
        obtain ⟨j, xs, U, hj, rfl, rfl, hown, hxs, hnn, hbr2⟩ := hrel
        have hbr3 : Below w2.heap.size w2 wr := HBRW.out.trans (hbr2.mono (by rw [HG0.out]; omega))
        obtain ⟨x0, x1, x2⟩ := (hM2.out.mvB hbr3).cells
        have hG2 : Hid (wr.heap[g0]? = some (.cells #[.int .i64 i, .int .i64 o, .slice A' s c'] 35)) := (hbr2.block _ (by omega)).trans hG.out
        have hszr := hbr2.size
        by_cases hjl : j < i
        · have hji : (j : Int) < i := by omega
          obtain ⟨br, ofr, Br, cr, nr, row', rfl, hbrl, hcr, _, _, _, hPr, hrl', hrk⟩ := (hr.below (below_next hB2.out hbr3)).at_ (k := a') (by rw [HN.out]; exact han)
          have hro : row' = row := by
            have h1 := hrk.out
            rw [HROW.out] at h1
            injection h1 with h1
            exact h1.symm
          subst hro
          have hnr : nr = i := by rw [← hrl'.out]; exact hrl.out
          subst hnr
          obtain ⟨bx, ox, x, y, rfl, hbxl, hx, hy, hxy⟩ := hPr.at_ (k := j) (by rw [hrl.out]; exact hjl)
          obtain ⟨bl, ol, hBe, hbll, hlc⟩ : ∃ b off, LA = some ⟨b, off, none⟩ ∧ b < wr.heap.size ∧ wr.cell? ⟨b, off + s, none⟩ = some (.int .i64 a') := by
            obtain ⟨b, off, z, h1, h4, h2, h3⟩ := (hLr.below hbr3).at_ (k := s) (by rw [HK.out]; exact hsl)
            have h3 := h3.out
            rw [HLA.out] at h3
            simp at h3
            rw [← h3] at h2
            exact ⟨b, off, h1, h4, h2⟩
          subst hBe
          have hxl : Hid (xs.length ≤ 1000000) := by have := hxs.out; show _ ≤ _; rw [this, List.length_take]; omega
          have hann : (a' : Int) < n := by omega
          have HXY := Lib.hid hxy.out
          have hok := HV.out.ok row' (List.mem_of_getElem? HROW.out) _ (List.mem_of_getElem? HXY.out)
          simp only at hok
          rw [HN.out] at hok
          have hokx : x = -1 ∨ (0 ≤ x ∧ x < n) := by omega
          have HOK := Lib.hid hokx
          clear hPr hrk hrl' hxy x1 hok hokx
          go_upto_region 11 with fail
          go_cut [9] from 31 to 41 (fun f wx => ∃ G, f = .pointer (some ⟨G, 0, none⟩) ∧ Hid (wx.heap[G]? = some (.cells #[.int .i64 x, .int .i64 y] 27)) ∧ wr.heap.size ≤ G ∧ Below wr.heap.size wr wx)
          case first =>
            have hpl : w.heap.size < wr.heap.size := by omega
            have c0 : (wr.alloc (.cells #[.int .i64 0, .int .i64 0] 27)).cell? ⟨w.heap.size, 2, none⟩ = some (.slice (some ⟨br, ofr, none⟩) n c) := (World.cell?_alloc_past _ _ _ hpl).trans x2
            have c1 : (wr.alloc (.cells #[.int .i64 0, .int .i64 0] 27)).cell? ⟨bl, ol + s, none⟩ = some (.int .i64 a') := (World.cell?_alloc_past _ _ _ hbll).trans hlc
            have c2 : (wr.alloc (.cells #[.int .i64 0, .int .i64 0] 27)).cell? ⟨br, ofr + a', none⟩ = some (.slice (some ⟨bx, ox, none⟩) nr cr) := (World.cell?_alloc_past _ _ _ hbrl).trans hcr
            have c3 : (wr.alloc (.cells #[.int .i64 0, .int .i64 0] 27)).cell? ⟨bx, ox + j * 2, none⟩ = some (.int .i64 x) := (World.cell?_alloc_past _ _ _ hbxl).trans hx
            have c4 : (wr.alloc (.cells #[.int .i64 0, .int .i64 0] 27)).cell? ⟨bx, ox + j * 2 + 1, none⟩ = some (.int .i64 y) := (World.cell?_alloc_past _ _ _ hbxl).trans hy
            go_region_held3 (fun w' => w'.cell? ⟨w.heap.size, 2, none⟩ = some (.slice (some ⟨br, ofr, none⟩) n c) ∧ w'.cell? ⟨bl, ol + s, none⟩ = some (.int .i64 a') ∧ w'.cell? ⟨br, ofr + a', none⟩ = some (.slice (some ⟨bx, ox, none⟩) nr cr) ∧ w'.cell? ⟨bx, ox + j * 2, none⟩ = some (.int .i64 x) ∧ w'.cell? ⟨bx, ox + j * 2 + 1, none⟩ = some (.int .i64 y)) (first | exact ⟨c0, c1, c2, c3, c4⟩ | exact ⟨x2, hlc, hcr, hx, hy⟩ | go_keep) (first | fail)
            all_goals
              go_wp2_with fail
              go_meet
              exact ⟨_, rfl, heap_alloc_new wr _, Nat.le_refl _, ((Below.refl _ _).alloc (Nat.le_refl _) _).drew⟩
          case rest =>
          obtain ⟨G, rfl, hGx, hGw, hbx⟩ := hcut
          have hown1 := own_below hown hbx
          have hbc2 : Below wo.heap.size wo wc := hbr2.trans (hbx.mono hszr)
          have hbc3 : Below w2.heap.size w2 wc := hbr3.trans (hbx.mono hbr3.size)
          have e0 : wc.cell? ⟨G, 0, none⟩ = some (.int .i64 x) := by rw [cell_of_row wc _ _ _ _ _ hGx.out]; rfl
          have e1 : wc.cell? ⟨G, 1, none⟩ = some (.int .i64 y) := by rw [cell_of_row wc _ _ _ _ _ hGx.out]; rfl
          have hszc := hbc2.size
          rcases HOK.out with hx1 | ⟨hx1, hx2⟩
          · have hxf : ¬ (0 : Int) ≤ x := by omega
            have hxd : decide (0 ≤ x) = false := decide_eq_false hxf
            have hstep : Hid (xs ++ [(x, y)] = (row'.map fun x => (Mc.qm m x.1, x.2)).take (j + 1)) := by
              show _ = _
              rw [List.take_add_one, ← hxs.out, List.getElem?_map, HXY.out, hx1]
              show _ = xs ++ [(Mc.qm m (-1), y)]
              rw [show Mc.qm m (-1) = -1 from Mc.mpg_none (Mc.ord_cls HV.out)]
            clear hown hbr2 hbr3 hbc3 hbx x0 x2 hlc hcr hx hy hx1
            go_wp2_with (at_builtin; refine wpList_append_edge _ x y hown1 hxl.out (by omega) hbc2 rfl _ _ rfl rfl rfl ?_)
            intro v1 w1 hown2 hnn1 hbr4
            clear hnn
            go_wp2
            go_roundw
            case rel => exact ⟨j + 1, xs ++ [(x, y)], v1, by omega, by go_num, rfl, by rw [List.length_append]; exact hown2, hstep, fun _ => hnn1, hbr4⟩
            case measure => simp [intOf]; omega
          · obtain ⟨t, rfl⟩ := Int.eq_ofNat_of_zero_le hx1
            have htn : t < n := by omega
            have htn' : (t : Int) < n := by omega
            have ht0 : (0 : Int) ≤ t := by omega
            have hxd : decide ((0 : Int) ≤ t) = true := decide_eq_true ht0
            obtain ⟨b6, o6, u, hTe, hb6, hc6, hu6⟩ := (hTo.below hbc3).at_ (k := t) (by rw [Mc.ql_len, HN.out]; exact htn)
            subst hTe
            have hqu : Mc.qm m t = u := by rw [← Mc.ql_gz (by rw [HN.out]; exact htn)]; exact hu6.out
            have hstep : Hid (xs ++ [(u, y)] = (row'.map fun x => (Mc.qm m x.1, x.2)).take (j + 1)) := by
              show _ = _
              rw [List.take_add_one, ← hxs.out, List.getElem?_map, HXY.out, ← hqu]
              rfl
            have hGb : ∀ q, U.ownBlock = some q → q < wr.heap.size := fun q hq => (hown.lt q hq).2
            have hown3 := Lib.hid (hown1.kept (grown_setCell wc ⟨G, 0, none⟩ (.int .i64 u)) (by
              rcases hv : U.ownBlock with _ | q
              · exact .inl rfl
              · refine .inr fun e => ?_
                have := hGb q hv
                injection e with e
                have e2 : q = G := e
                omega))
            have f0 : wc.frozen? ⟨G, 0, none⟩ = false := by have := hGx.out; simp [World.frozen?, this]
            have hGx2 : Hid ((wc.setCell ⟨G, 0, none⟩ (.int .i64 u)).heap[G]? = some (.cells #[.int .i64 u, .int .i64 y] 27)) := by
              have := hGx.out
              show _ = _
              simp [World.setCell, Array.getElem?_modify, this]
            have hbq := hbc2.setCell (p := ⟨G, 0, none⟩) (by show wo.heap.size ≤ G; omega) (.int .i64 u)
            have hsq := hbq.size
            have k0 : (wc.setCell ⟨G, 0, none⟩ (.int .i64 u)).cell? ⟨G, 0, none⟩ = some (.int .i64 u) := by rw [cell_of_row _ _ _ _ _ _ hGx2.out]; rfl
            have k1 : (wc.setCell ⟨G, 0, none⟩ (.int .i64 u)).cell? ⟨G, 1, none⟩ = some (.int .i64 y) := by rw [cell_of_row _ _ _ _ _ _ hGx2.out]; rfl
            clear hown hbr2 hbr3 hbc3 hbx x0 x2 hlc hcr hx hy hGb hu6 hqu hown1
            have c6 := hc6
            go_upto_region 14 with fail
            obtain ⟨W5, hW5⟩ : ∃ W, wc.setCell ⟨G, 0, none⟩ (.int .i64 u) = W := ⟨_, rfl⟩
            rw [hW5] at hown3 hGx2 hbq hsq k0 k1
            try rw [hW5]
            clear hW5 e0 e1 f0 c6 hc6
            go_wp2_with (at_builtin; refine wpList_append_edge _ u y hown3.out hxl.out (by omega) hbq rfl _ _ rfl rfl rfl ?_)
            intro v1 w1 hown2 hnn1 hbr4
            clear hnn
            go_wp2
            go_roundw
            case rel => exact ⟨j + 1, xs ++ [(u, y)], v1, by omega, by go_num, rfl, by rw [List.length_append]; exact hown2, hstep, fun _ => hnn1, hbr4⟩
            case measure => simp [intOf]; omega
        · have hji : ¬ (j : Int) < i := by omega
          have hje : j = i := by omega
          have g2 : wr.cell? ⟨g0, 2, none⟩ = some (.slice A' s c') := by rw [cell_of_row wr _ _ _ _ _ hG2.out]; rfl
          have hxi : Hid (xs = row.map fun x => (Mc.qm m x.1, x.2)) := by
            have h := hxs.out
            rw [List.take_of_length_le (by rw [List.length_map]; have := hrl.out; omega)] at h
            exact h
          have hxl : xs.length = i := by rw [hxi.out, List.length_map]; exact hrl.out
          rw [hxl] at hown
          have HXL := Lib.hid hxl
          clear hxl
          obtain ⟨gq, cq, rfl, hcq⟩ := edge_form hown (hnn.out (by omega))
          have hS1 := Lib.hid (cell_one_new wr (t := 51) (.slice (some ⟨gq, 0, none⟩) i cq))
          have hBr := Lib.hid (hBl.out.below hbr2)
          have hVl : Hid (vs.length = s) := by have := hBl.out.1.1; have := hts; show _ = _; omega
          have hown17 := (hBr.out.1.alloc (.cells #[.slice (some ⟨gq, 0, none⟩) i cq] 51))
          rw [hts] at hown17
          have hS2 : Hid (∀ u ∈ ([.slice (some ⟨gq, 0, none⟩) i cq] : List Value), u.oneCell' = true) := fun u hu => by simp at hu; subst hu; rfl
          have hS3 : s + 1 ≤ maxLen := by unfold maxLen; omega
          have hS4 : (s + 1) * 24 ≤ 140737488355328 := by omega
          have hS5 : g0 + 1 ≤ (wr.alloc (.cells #[.slice (some ⟨gq, 0, none⟩) i cq] 51)).heap.size := by simp; omega
          have hbrg : Below g0 w2 wr := hbr.trans (hbr2.mono (by omega))
          go_wp2_with (at_builtin; refine wpList_append_own _ rfl _ _ 33 rfl (g0 + 1) 51 r0 (.slice none 0 0) 1 24 Try.underlying33 hr0 hr1 hr2 hr3 rfl (by decide) _ _ _ rfl hown17 ⟨wr.heap.size, 0, none⟩ 1 1 [.slice (some ⟨gq, 0, none⟩) i cq] rfl rfl hS1.out hS2.out hS3 hS4 hS5 ?_)
          intro v1 w1 hown1 hg1 hnil1
          have hne : some g0 ≠ (Value.slice A' s c').ownBlock := fun e => by
            have := (hown17.lt _ e.symm).1
            omega
          have hG3 : Hid (w1.heap[g0]? = some (.cells #[.int .i64 i, .int .i64 o, .slice A' s c'] 35)) := by
            show _ = _
            rw [hg1.block g0 (by simp; omega) hne, heap_alloc_old wr _ (by omega)]
            exact hG2.out
          have g3 : w1.cell? ⟨g0, 2, none⟩ = some (.slice A' s c') := by rw [cell_of_row w1 _ _ _ _ _ hG3.out]; rfl
          have f3 : w1.frozen? ⟨g0, 2, none⟩ = false := by have := hG3.out; simp [World.frozen?, this]
          have hpush := hBr.out.push (row := xs) (g := gq) (c := cq) (V1 := v1) (w1 := w1) (o := .cells #[.slice (some ⟨gq, 0, none⟩) i cq] 51) (by unfold OwR; rw [HXL.out]; exact own_base hown (by omega)) (by rw [hts, HXL.out]; exact hown1) hg1
          clear hnil1 hown1
          obtain ⟨A1, c1, rfl, hc1, hc1m, _, _⟩ := hpush.rd
          have hl1 : (T.take s ++ [xs]).length = s + 1 := by rw [List.length_append, hts]; rfl
          rw [hl1] at hpush ⊢
          have hset := hpush.kept (grown_setCell w1 ⟨g0, 2, none⟩ (.slice A1 (s + 1) c1)) (by show g0 < _; omega)
          have hRs : T.take s ++ [xs] = T.take (s + 1) := by rw [List.take_add_one, hTs.out, hxi.out]; rfl
          rw [hRs] at hset
          have hset := Lib.hid hset
          have hG4 : Hid ((w1.setCell ⟨g0, 2, none⟩ (.slice A1 (s + 1) c1)).heap[g0]? = some (.cells #[.int .i64 i, .int .i64 o, .slice A1 (s + 1) c1] 35)) := by
            have := hG3.out
            show _ = _
            simp [World.setCell, Array.getElem?_modify, this]
          have hbF : Below g0 w2 (w1.setCell ⟨g0, 2, none⟩ (.slice A1 (s + 1) c1)) :=
            ((hbrg.alloc (by omega) (.cells #[.slice (some ⟨gq, 0, none⟩) i cq] 51)).grown hg1 (by simp; omega) (fun j hj => by have := (hown17.lt _ hj).1; omega)).setCell (p := ⟨g0, 2, none⟩) (Nat.le_refl g0) _
          clear hown hg1 hpush hRs hl1 hne hG3
          go_wp2
          go_roundw
          case rel => exact ⟨s + 1, _, _, by omega, by go_num, hG4, hset, hbF⟩
          case measure => simp [intOf]; omega
    · have hsl' : ¬ (s : Int) < k := by omega
      obtain ⟨g0c, g1c, g2c⟩ : wr.cell? ⟨g0, 0, none⟩ = some (.int .i64 i) ∧ wr.cell? ⟨g0, 1, none⟩ = some (.int .i64 o) ∧ wr.cell? ⟨g0, 2, none⟩ = some (.slice A' s c') := by
        refine ⟨?_, ?_, ?_⟩ <;> (rw [cell_of_row wr _ _ _ _ _ hG.out]; rfl)
      have hzr : BxM wr (w.heap.size + 1) 0 0 none 0 0 := hZ2.out.mvB hbrw
      obtain ⟨e0, e1, e2⟩ := hzr.cells
      obtain ⟨f0, f1, f2⟩ := hzr.frozen
      obtain ⟨s0, s1, s2⟩ := set3_reads hzr (.int .i64 i) (.int .i64 o) (.slice A' s c')
      have hk1 := (hBl.out.kept (grown_setCell wr ⟨w.heap.size + 1, 0, none⟩ (.int .i64 i)) (by show w.heap.size + 1 < _; omega)).kept (grown_setCell _ ⟨w.heap.size + 1, 1, none⟩ (.int .i64 o)) (by show w.heap.size + 1 < _; omega)
      have hk2 := hk1.kept (grown_setCell _ ⟨w.heap.size + 1, 2, none⟩ (.slice A' s c')) (by show w.heap.size + 1 < _; omega)
      rw [List.take_of_length_le (by have := hTl.out; omega)] at hk2
      have hfin : Hid (RmP w m i o (.returned (.agg #[.int .i64 i, .int .i64 o, .slice A' s c'])) (((wr.setCell ⟨w.heap.size + 1, 0, none⟩ (.int .i64 i)).setCell ⟨w.heap.size + 1, 1, none⟩ (.int .i64 o)).setCell ⟨w.heap.size + 1, 2, none⟩ (.slice A' s c'))) :=
        ⟨.slice A' s c', vs, rfl, by rw [HT.out]; exact hk2.base (by omega), below_set3' (below_next hB2.out hbrw) (by omega) _ _ _⟩
      clear hk1 hk2 hzr
      go_wp2
      refine bodyPost_ret (v := .agg #[.int .i64 i, .int .i64 o, .slice A' s c']) (by simp [results, Try.f16, go_sem, s0, s1, s2]) rfl ?_
      rw [← HP0.out]
      exact hfin.out
end Go.Proofs.Ytiamkkgnjobljaa
