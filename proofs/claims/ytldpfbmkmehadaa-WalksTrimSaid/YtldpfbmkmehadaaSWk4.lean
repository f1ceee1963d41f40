/-
  Contract: the reference's Order. No statement is proved here.
-/
import Derived.Test.YtldpfbmkmehadaaSWk3
import Derived.Test.YtldpfbmkmehadaaWkZ
import Derived.Test.YtldpfbmkmehadaaSWkA
import Derived.BigQuiet
import Derived.StillTailTactics
import Derived.Deep.CutRange
namespace Go.Proofs.Ytldpfbmkmehadaa
open Go.RowKit
open Mc (Ed Ma)

/-- A world in which nothing below wr's heap has changed. -/
structure BW (wr : World) where
  out : World
  ok : Below wr.heap.size wr out
instance (wr : World) : Nonempty (BW wr) := ⟨⟨wr, Below.refl _ _⟩⟩
theorem wp_region_quiet_below {P : Program} {id : Nat} {Q : Exit → Act → World → Prop} {a : Act} {wr : World} {l : List Oper} (hm : P.follows .mixedOrders = true) (hB : Region.lexB .any l.toArray = true)
    (h : wpQuiet P l.toArray (fun w' => ∃ x : BW wr, w' = x.out) (fun a' => ∀ w', (∃ x : BW wr, w' = x.out) → Q .normal a' w') l a) : (Code.region id l.toArray true).wp P Q a wr :=
  wp_region_quiet (C := fun w' => ∃ x : BW wr, w' = x.out) hm hB ⟨⟨_, (Below.refl _ _).drew⟩, rfl⟩ (by simpa using h)
theorem Rd.takeL {w : World} {A : Option Addr} {L : List Int} (h : Rd w A L) (j : Nat) : Rd w A (L.take j) := fun hp => by
  rw [List.length_take] at hp
  obtain ⟨b, off, e, hb, hc⟩ := h (by omega)
  refine ⟨b, off, e, hb, fun k hk => ?_⟩
  rw [List.length_take] at hk
  rw [hc k (by omega), List.getElem?_take, if_pos (by omega)]
theorem Rd.dropL {w : World} {b off : Nat} {L : List Int} (h : Rd w (some ⟨b, off, none⟩) L) (j : Nat) : Rd w (some ⟨b, off + j, none⟩) (L.drop j) := fun hp => by
  rw [List.length_drop] at hp
  obtain ⟨b', off', e, hb, hc⟩ := h (by omega)
  injection e with e
  injection e with e1 e2
  subst e1 e2
  refine ⟨b, off + j, rfl, hb, fun k hk => ?_⟩
  rw [List.length_drop] at hk
  rw [List.getElem?_drop, Nat.add_assoc, hc (j + k) (by omega)]
/-- What Order hands back. -/
def Ordd (w : World) (m : Ma) (e : Ending) (w' : World) : Prop := ∃ V L, e = .returned V ∧ Hid (OwI w' w.heap.size V L) ∧ Hid (Mc.Ord m L) ∧ Below w.heap.size w w'
set_option maxRecDepth 100000 in
set_option maxHeartbeats 4000000 in
theorem order_any (m : Ma) (A : Option Addr) (c : Nat) (w : World) (v : Mc.Val m) (hr : RdR w A m.r) :
    Calls Try.prog 47 #[.agg #[.int .i64 m.i, .int .i64 m.o, .slice A m.r.length c]] w (Ordd w m) := by
  have h2 := v.r1
  have hb0 : Below (w.heap.size + 1) (boxM w m.i m.o A m.r.length c) (boxM w m.i m.o A m.r.length c) := Below.refl _ _
  have C := access_any m A c (boxM w m.i m.o A m.r.length c) v (hr.below (box_below hb0))
  have HV := Lib.hid v
  clear v
  go_enter Try.func47, Try.ntmps47
  go_wp2_with fail
  refine C.mono ?_
  rintro e w1 ⟨g1, g2, n, base, l, is, rfl, hn, hW, hB, hP, hg, hb⟩
  obtain ⟨x, hP0, hxl⟩ := hP.out
  have HX := Lib.hid hP0
  have HXL := Lib.hid hxl
  have hbm := box_below (hb.mono (by simp))
  have hwl := Lib.hid hW.out.lt
  have hbl := Lib.hid hB.out.lt
  have hn2 : n ≤ 64 := by rw [hn.out]; exact h2
  clear C hP hP0 hxl h2
  go_wp2
  go_loopw [5, 6] (fun u q wr => ∃ (s : Nat) (L : List Int) (B : Option Addr) (d : Nat), s ≤ n ∧ q = .int .i64 s ∧ u = .slice B L.length d ∧ L.length ≤ d ∧ L.length ≤ s ∧ Hid (OwI wr w1.heap.size (.slice B L.length d) L) ∧ Hid (Mc.OP m is s L) ∧ Below w1.heap.size w1 wr) (fun _ q _ => n - (intOf q).toNat)
  case atStart => exact ⟨0, [], none, 0, Nat.zero_le _, rfl, rfl, Nat.le_refl _, Nat.zero_le _, OwI.nil_ _ _, Mc.OP.start _ _, Below.refl _ _⟩
  case round =>
    obtain ⟨s, L, B, d, hs, rfl, rfl, hLd, hLs, hO, hOP, hbr⟩ := hrel
    have hW2 := hW.out.below hbr
    have hB2 := hB.out.below hbr hbl.out
    obtain ⟨nl, hnl⟩ : ∃ nl, L.length = nl := ⟨_, rfl⟩
    have HL := Lib.hid hnl
    by_cases hlt : s < n
    · obtain ⟨z, hc, hf, hz⟩ := hB2.at_ (k := s) (by rw [HX.out.li, ← hn.out]; exact hlt)
      have hsn : (s : Int) < n := by omega
      cases z with
      | false =>
        have hOP2 := Lib.hid (hOP.out.skip hz.out)
        go_wp2
        go_roundw
        case rel => exact ⟨s + 1, L, B, d, by omega, by go_num, rfl, hLd, by omega, hO, hOP2, hbr⟩
        case measure => simp [intOf] <;> omega
      | true =>
        obtain ⟨u, hl1, hlw, hlr⟩ := HX.out.word HV.out.i0 hz.out
        obtain ⟨us, hcs, hus⟩ := hW2.cell (k := s) (by rw [HX.out.ll, ← hn.out]; exact hlt)
        obtain ⟨Bs, ds, hvs, hds⟩ := own_formI (hus.out.choose_spec.2)
        have hus1 : Hid (OwI wr base us u) := by
          obtain ⟨y, h5, h6⟩ := hus.out
          have : y = u := by rw [hl1] at h5; injection h5 with h5; exact h5.symm
          subst this
          exact h6
        clear hvs hds Bs ds
        obtain ⟨Bs, ds, rfl, hds⟩ := own_formI hus1.out
        have hrs : Rd wr Bs u := Rd.of_own hus1.out
        have hrL : Rd wr B L := Rd.of_own hO.out
        have HLW := Lib.hid hlw
        have HLR := Lib.hid hlr
        have hul : u.length ≤ 64 := by
          have := hlw.short HV.out ⟨by omega, by have := HV.out.r0; omega⟩ (by omega)
          rw [← hn.out] at this
          omega
        obtain ⟨nu, hnu⟩ : ∃ nu, u.length = nu := ⟨_, rfl⟩
        have HU := Lib.hid hnu
        rw [hnu] at hds hul hcs
        rw [hnl] at hLd hLs ⊢
        clear hlw hlr hus hus1 hnl hnu
        obtain ⟨wo, rfl⟩ : ∃ wo : World, wo = wr := ⟨_, rfl⟩
        have HW2 := Lib.hid hW2
        clear hW2 hB2
        go_wp2
        go_loopw [7] (fun q w2 => ∃ j : Nat, j ≤ nl ∧ q = .int .i64 j ∧ Hid (∀ i a, i < j → L[i]? = some a → Mc.ar m a < Mc.ar m s) ∧ Below wo.heap.size wo w2) (fun q _ => nl - (intOf q).toNat)
        case atStart => exact ⟨0, Nat.zero_le _, rfl, fun i a h => absurd h (Nat.not_lt_zero _), Below.refl _ _⟩
        case round =>
          obtain ⟨j, hj, rfl, hlo, hbo⟩ := hrel
          by_cases hjl : j < nl
          · obtain ⟨b, off, t0, hBe, hbb, hct, hLt⟩ := hrL.at_ (k := j) (by rw [HL.out]; exact hjl)
            subst hBe
            have hLt2 : L[j]? = some t0 := by
              have h7 : j < L.length := by rw [HL.out]; exact hjl
              rw [List.getElem?_eq_getElem h7] at hLt ⊢
              exact congrArg some hLt.out
            obtain ⟨t, rfl, hts, htt⟩ := hOP.out.at_ hLt2
            have htn : t < n := by omega
            obtain ⟨y, hy1, hyw, hyr⟩ := HX.out.word HV.out.i0 htt
            obtain ⟨uy, hcy, hyo⟩ := HW2.out.cell (k := t) (by rw [HX.out.ll, ← hn.out]; exact htn)
            have hyo1 : OwI wo base uy y := by
              obtain ⟨y', h5, h6⟩ := hyo.out
              have : y' = y := by rw [hy1] at h5; injection h5 with h5; exact h5.symm
              subst this
              exact h6
            obtain ⟨By, dy, rfl, hdy⟩ := own_formI hyo1
            have hry : Rd wo By y := Rd.of_own hyo1
            have CA : ∀ wz, Below wr.heap.size wr wz → Calls Try.prog 58 #[.slice By y.length dy, .slice Bs nu ds] wz fun e w' => e = .returned (.int .i64 (M.le1 y u)) ∧ Below wz.heap.size wz w' := fun wz hz => by
              have h7 := less_any By Bs dy ds y u wz (hry.below (below_next hbo hz)) (hrs.below (below_next hbo hz)) (by have h8 := hyw.short HV.out ⟨by omega, by have := HV.out.r0; omega⟩ (by omega); rw [← hn.out] at h8; omega)
              rw [HU.out] at h7
              exact h7
            have hWo := Lib.hid (HW2.out.below hbo)
            have hgl := hWo.out.lt
            have hbb2 : b < wr.heap.size := by have := hbo.size; omega
            have hcs2 : wr.cell? ⟨g1, s, none⟩ = some (.slice Bs nu ds) := (hbo.cell (p := ⟨g1, s, none⟩) HW2.out.lt).trans hcs
            have hcy2 : wr.cell? ⟨g1, t, none⟩ = some (.slice By y.length dy) := (hbo.cell (p := ⟨g1, t, none⟩) HW2.out.lt).trans hcy
            have hct2 : wr.cell? ⟨b, off + j, none⟩ = some (.int .i64 t) := (hbo.cell (p := ⟨b, off + j, none⟩) hbb).trans hct
            have f0 : ∀ x : BW wr, x.out.cell? ⟨g1, s, none⟩ = some (.slice Bs nu ds) := fun x => (x.ok.cell (p := ⟨_, _, none⟩) hgl).trans hcs2
            have f1 : ∀ x : BW wr, x.out.cell? ⟨g1, t, none⟩ = some (.slice By y.length dy) := fun x => (x.ok.cell (p := ⟨_, _, none⟩) hgl).trans hcy2
            have f2 : ∀ x : BW wr, x.out.cell? ⟨b, off + j, none⟩ = some (.int .i64 t) := fun x => (x.ok.cell (p := ⟨_, _, none⟩) hbb2).trans hct2
            have hjl2 : (j : Int) < nl := by omega
            have htn2 : (t : Int) < n := by omega
            have HCA := Lib.hid CA
            clear CA hcs hcy hct hcs2 hcy2 hct2 hLt hyo hyo1 hry
            go_wp2_with fail
            refine wp_region_quiet_below (by kernel_rfl) (by kernel_rfl) ?_
            repeat (go_big_quiet_step ((rename_i x; first
              | ((with_reducible refine (HCA.out _ x.ok).mono ?_); rintro e w3 ⟨rfl, hb3⟩; exact ⟨rfl, ⟨w3, below_next x.ok hb3⟩, rfl⟩)
              | fail)))
            refine wpQuiet_nil ?_
            intro w11 hw11
            obtain ⟨⟨wx, hbW⟩, hw3⟩ := hw11
            dsimp only at hw3
            subst hw3
            clear f0 f1 f2
            have hb11 := below_next hbo hbW
            by_cases hle : M.le1 y u = 1
            · have hlr : Hid (Mc.ar m t < Mc.ar m s) := by
                have h8 := (M.le1_rk HV.out.i0 hyw.wd HLW.out.wd).1 hle
                have h9 := HLR.out
                show _ < _
                omega
              have hlo2 : Hid (∀ i a, i < j + 1 → L[i]? = some a → Mc.ar m a < Mc.ar m s) := fun i a h8 h9 => by
                rcases Nat.lt_or_ge i j with h10 | h10
                · exact hlo.out i a h10 h9
                · obtain rfl : i = j := by omega
                  rw [hLt2] at h9
                  injection h9 with h9
                  rw [← h9]
                  exact hlr.out
              rw [hle]
              go_wp2
              go_roundw
              case rel => exact ⟨j + 1, by omega, by go_num, hlo2, hb11⟩
              case measure => simp [intOf] <;> omega
            · have hle0 : M.le1 y u = 0 := by
                unfold M.le1 at hle ⊢
                split at hle <;> simp_all
              have hlr : Hid (¬ Mc.ar m t < Mc.ar m s) := fun h8 => hle ((M.le1_rk HV.out.i0 hyw.wd HLW.out.wd).2 (by have h9 := HLR.out; omega))
              have hhi : Hid (∀ a, L[j]? = some a → ¬ Mc.ar m a < Mc.ar m s) := fun a h9 => by
                rw [hLt2] at h9
                injection h9 with h9
                rw [← h9]
                exact hlr.out
              rw [hle0]
              have hRLx := Lib.hid (hrL.below hb11)
              have hT0 : Hid (Rd w11 (some ⟨b, off, none⟩) (L.take j)) := hRLx.out.takeL j
              have hT1 : Hid ((L.take j).length = j) := by show _ = _; rw [List.length_take, HL.out]; omega
              have hD1 : Hid ((L.drop j).length = nl - j) := by show _ = _; have h8 := HL.out; rw [List.length_drop]; omega
              go_wp2_with (at_builtin; refine wpList_append_list w11 (W0 := w11) (B := w11.heap.size) (xs := []) (ys := L.take j) (OwI.nil_ _ _) hT0.out hT1.out ?a1 (Nat.le_refl _) (Below.refl _ _) rfl _ _ rfl rfl rfl ?_)
              case a1 => first | omega | (simp <;> omega) | fail
              intro v8 w12 hown8 hb12
              obtain ⟨A8, d8, rfl, hd8⟩ := own_formI hown8
              have hz12 := hb12.size
              have hown8' : OwI (w12.alloc (.cells #[.int .i64 s] 3)) w11.heap.size (.slice A8 (L.take j).length d8) (L.take j) := hown8.alloc _
              have hb12' := hb12.alloc hz12 (.cells #[.int .i64 s] 3)
              have hS1 : Hid (Rd (w12.alloc (.cells #[.int .i64 s] 3)) (some ⟨w12.heap.size, 0, none⟩) [(s : Int)]) := Rd.of_block (t := 3) (heap_alloc_new w12 _)
              rw [hT1.out] at hown8'
              try rw [hT1.out]
              have hO8 := Lib.hid hown8'
              have hb12x := Lib.hid hb12'
              clear hown8 hown8' hb12'
              go_wp2_with (at_builtin; refine wpList_append_list _ (W0 := w11) (B := w11.heap.size) (xs := L.take j) (ys := [(s : Int)]) (by unfold OwI; exact hO8.out) hS1.out rfl ?b1 ?b2 hb12x.out rfl _ _ rfl rfl rfl ?_)
              case b1 => rw [hT1.out]; simp <;> omega
              case b2 => simp <;> omega
              intro v9 w13 hown9 hb13
              obtain ⟨A9, d9, rfl, hd9⟩ := own_formI hown9
              have hz13 := hb13.size
              have hD0 := Lib.hid (hRLx.out.below hb13)
              have hO9 := Lib.hid hown9
              have hb13x := Lib.hid hb13
              clear hown9 hb12 hb13
              go_wp2_with (at_builtin; refine wpList_append_list _ (W0 := w11) (B := w11.heap.size) (xs := L.take j ++ [(s : Int)]) (ys := L.drop j) hO9.out (hD0.out.dropL j) hD1.out ?c1 ?c2 hb13x.out rfl _ _ rfl rfl rfl ?_)
              case c1 => rw [List.length_append, hT1.out]; simp <;> omega
              case c2 => exact hz13
              intro v10 w14 hown10 hb14
              have hO10 : Hid (OwI w14 w1.heap.size v10 (L.take j ++ (s : Int) :: L.drop j)) := by
                have h8 := own_base hown10 ((hbr.trans (hb11.mono hbr.size)).size)
                exact h8
              obtain ⟨A10, d10, rfl, hd10⟩ := own_formI hO10.out
              have hOP3 := Lib.hid (hOP.out.ins HV.out.i0 HX.out hz.out hlo.out (fun a h => by have := hhi.out a h; omega))
              have hb14' := hbr.trans ((below_next hb11 hb14).mono hbr.size)
              have hln : (L.take j ++ (s : Int) :: L.drop j).length ≤ s + 1 := by simp; have := HL.out; omega
              clear hown10 hb14
              go_wp2
              go_roundw
              case rel => exact ⟨s + 1, _, A10, d10, by omega, by go_num, rfl, hd10, hln, hO10, hOP3, hb14'⟩
              case measure => simp [intOf] <;> omega
          · obtain rfl : j = nl := by omega
            have hlast : Hid (∀ a, L[j]? = some a → ¬ Mc.ar m a < Mc.ar m s) := fun a h8 => by
              rw [List.getElem?_eq_none (by rw [HL.out]; exact Nat.le_refl _)] at h8
              cases h8
            have hjl3 : ¬ (j : Int) < j := by omega
            have hform : (B = none ∧ j = 0 ∧ d = 0) ∨ ∃ gB, B = some ⟨gB, 0, none⟩ := by
              rcases hO.out.2 with ⟨e, h0⟩ | ⟨gB, cap, cur, e, _⟩
              · injection e with e1 e2 e3
                have := HL.out
                exact Or.inl ⟨e1, by omega, e3⟩
              · injection e with e1 e2 e3
                exact Or.inr ⟨gB, e1⟩
            have hways : (B = none ∧ j = 0 ∧ d = 0) ∨ (∃ gB, B = some ⟨gB, 0, none⟩ ∧ j < d) ∨ (∃ gB, B = some ⟨gB, 0, none⟩ ∧ j = d) := by
              rcases hform with h8 | ⟨gB, h8⟩
              · exact Or.inl h8
              · rcases Nat.lt_or_eq_of_le hLd with h9 | h9
                · exact Or.inr (Or.inl ⟨gB, h8, h9⟩)
                · exact Or.inr (Or.inr ⟨gB, h8, h9⟩)
            clear hform
            go_wp2_with fail
            refine wp_region_quiet_below (by kernel_rfl) (by kernel_rfl) ?_
            repeat (go_big_quiet_step (fail))
            refine wpQuiet_nil ?_
            intro w11 hw11
            obtain ⟨⟨wx, hbW⟩, hw3⟩ := hw11
            dsimp only at hw3
            subst hw3
            have hb11 := below_next hbo hbW
            have hRLx := Lib.hid (hrL.below hb11)
            rcases hways with ⟨rfl, hj0, rfl⟩ | ⟨gB, rfl, hjd⟩ | ⟨gB, rfl, rfl⟩
            · subst hj0
              have hT0 : Hid (Rd w11 none (L.take 0)) := hRLx.out.takeL 0
              have hT1 : Hid ((L.take 0).length = 0) := by show _ = _; rw [List.length_take, HL.out]; omega
              have hD1 : Hid ((L.drop 0).length = 0) := by show _ = _; have h8 := HL.out; rw [List.length_drop]; omega
              go_wp2_with (at_builtin; refine wpList_append_list w11 (W0 := w11) (B := w11.heap.size) (xs := []) (ys := L.take 0) (OwI.nil_ _ _) hT0.out hT1.out ?a1 (Nat.le_refl _) (Below.refl _ _) rfl _ _ rfl rfl rfl ?_)
              case a1 => first | omega | (simp <;> omega) | fail
              intro v8 w12 hown8 hb12
              obtain ⟨A8, d8, rfl, hd8⟩ := own_formI hown8
              have hz12 := hb12.size
              have hown8' : OwI (w12.alloc (.cells #[.int .i64 s] 3)) w11.heap.size (.slice A8 (L.take 0).length d8) (L.take 0) := hown8.alloc _
              have hb12' := hb12.alloc hz12 (.cells #[.int .i64 s] 3)
              have hS1 : Hid (Rd (w12.alloc (.cells #[.int .i64 s] 3)) (some ⟨w12.heap.size, 0, none⟩) [(s : Int)]) := Rd.of_block (t := 3) (heap_alloc_new w12 _)
              rw [hT1.out] at hown8'
              try rw [hT1.out]
              have hO8 := Lib.hid hown8'
              have hb12x := Lib.hid hb12'
              clear hown8 hown8' hb12'
              go_wp2_with (at_builtin; refine wpList_append_list _ (W0 := w11) (B := w11.heap.size) (xs := L.take 0) (ys := [(s : Int)]) (by unfold OwI; exact hO8.out) hS1.out rfl ?b1 ?b2 hb12x.out rfl _ _ rfl rfl rfl ?_)
              case b1 => rw [hT1.out]; simp <;> omega
              case b2 => simp <;> omega
              intro v9 w13 hown9 hb13
              obtain ⟨A9, d9, rfl, hd9⟩ := own_formI hown9
              have hz13 := hb13.size
              have hD0 := Lib.hid (hRLx.out.below hb13)
              have hO9 := Lib.hid hown9
              have hb13x := Lib.hid hb13
              clear hown9 hb12 hb13
              go_wp2_with (at_builtin; refine wpList_append_list _ (W0 := w11) (B := w11.heap.size) (xs := L.take 0 ++ [(s : Int)]) (ys := L.drop 0) hO9.out (fun h8 => absurd h8 (by have := hD1.out; omega)) hD1.out ?c1 ?c2 hb13x.out rfl _ _ rfl rfl rfl ?_)
              case c1 => rw [List.length_append, hT1.out]; simp <;> omega
              case c2 => exact hz13
              intro v10 w14 hown10 hb14
              have hO10 : Hid (OwI w14 w1.heap.size v10 (L.take 0 ++ (s : Int) :: L.drop 0)) := by
                have h8 := own_base hown10 ((hbr.trans (hb11.mono hbr.size)).size)
                exact h8
              obtain ⟨A10, d10, rfl, hd10⟩ := own_formI hO10.out
              have hOP3 := Lib.hid (hOP.out.ins HV.out.i0 HX.out hz.out hlo.out (fun a h => by have := hlast.out a h; omega))
              have hb14' := hbr.trans ((below_next hb11 hb14).mono hbr.size)
              have hln : (L.take 0 ++ (s : Int) :: L.drop 0).length ≤ s + 1 := by simp; have := HL.out; omega
              clear hown10 hb14
              go_wp2
              go_roundw
              case rel => exact ⟨s + 1, _, A10, d10, by omega, by go_num, rfl, hd10, hln, hO10, hOP3, hb14'⟩
              case measure => simp [intOf] <;> omega
            · skip
              have hT0 : Hid (Rd w11 (some ⟨gB, 0, none⟩) (L.take j)) := hRLx.out.takeL j
              have hT1 : Hid ((L.take j).length = j) := by show _ = _; rw [List.length_take, HL.out]; omega
              have hD1 : Hid ((L.drop j).length = 0) := by show _ = _; have h8 := HL.out; rw [List.length_drop]; omega
              go_wp2_with (at_builtin; refine wpList_append_list w11 (W0 := w11) (B := w11.heap.size) (xs := []) (ys := L.take j) (OwI.nil_ _ _) hT0.out hT1.out ?a1 (Nat.le_refl _) (Below.refl _ _) rfl _ _ rfl rfl rfl ?_)
              case a1 => first | omega | (simp <;> omega) | fail
              intro v8 w12 hown8 hb12
              obtain ⟨A8, d8, rfl, hd8⟩ := own_formI hown8
              have hz12 := hb12.size
              have hown8' : OwI (w12.alloc (.cells #[.int .i64 s] 3)) w11.heap.size (.slice A8 (L.take j).length d8) (L.take j) := hown8.alloc _
              have hb12' := hb12.alloc hz12 (.cells #[.int .i64 s] 3)
              have hS1 : Hid (Rd (w12.alloc (.cells #[.int .i64 s] 3)) (some ⟨w12.heap.size, 0, none⟩) [(s : Int)]) := Rd.of_block (t := 3) (heap_alloc_new w12 _)
              rw [hT1.out] at hown8'
              try rw [hT1.out]
              have hO8 := Lib.hid hown8'
              have hb12x := Lib.hid hb12'
              clear hown8 hown8' hb12'
              go_wp2_with (at_builtin; refine wpList_append_list _ (W0 := w11) (B := w11.heap.size) (xs := L.take j) (ys := [(s : Int)]) (by unfold OwI; exact hO8.out) hS1.out rfl ?b1 ?b2 hb12x.out rfl _ _ rfl rfl rfl ?_)
              case b1 => rw [hT1.out]; simp <;> omega
              case b2 => simp <;> omega
              intro v9 w13 hown9 hb13
              obtain ⟨A9, d9, rfl, hd9⟩ := own_formI hown9
              have hz13 := hb13.size
              have hD0 := Lib.hid (hRLx.out.below hb13)
              have hO9 := Lib.hid hown9
              have hb13x := Lib.hid hb13
              clear hown9 hb12 hb13
              go_wp2_with (at_builtin; refine wpList_append_list _ (W0 := w11) (B := w11.heap.size) (xs := L.take j ++ [(s : Int)]) (ys := L.drop j) hO9.out (fun h8 => absurd h8 (by have := hD1.out; omega)) hD1.out ?c1 ?c2 hb13x.out rfl _ _ rfl rfl rfl ?_)
              case c1 => rw [List.length_append, hT1.out]; simp <;> omega
              case c2 => exact hz13
              intro v10 w14 hown10 hb14
              have hO10 : Hid (OwI w14 w1.heap.size v10 (L.take j ++ (s : Int) :: L.drop j)) := by
                have h8 := own_base hown10 ((hbr.trans (hb11.mono hbr.size)).size)
                exact h8
              obtain ⟨A10, d10, rfl, hd10⟩ := own_formI hO10.out
              have hOP3 := Lib.hid (hOP.out.ins HV.out.i0 HX.out hz.out hlo.out (fun a h => by have := hlast.out a h; omega))
              have hb14' := hbr.trans ((below_next hb11 hb14).mono hbr.size)
              have hln : (L.take j ++ (s : Int) :: L.drop j).length ≤ s + 1 := by simp; have := HL.out; omega
              clear hown10 hb14
              go_wp2
              go_roundw
              case rel => exact ⟨s + 1, _, A10, d10, by omega, by go_num, rfl, hd10, hln, hO10, hOP3, hb14'⟩
              case measure => simp [intOf] <;> omega
            · skip
              have hT0 : Hid (Rd w11 (some ⟨gB, 0, none⟩) (L.take j)) := hRLx.out.takeL j
              have hT1 : Hid ((L.take j).length = j) := by show _ = _; rw [List.length_take, HL.out]; omega
              have hD1 : Hid ((L.drop j).length = 0) := by show _ = _; have h8 := HL.out; rw [List.length_drop]; omega
              go_wp2_with (at_builtin; refine wpList_append_list w11 (W0 := w11) (B := w11.heap.size) (xs := []) (ys := L.take j) (OwI.nil_ _ _) hT0.out hT1.out ?a1 (Nat.le_refl _) (Below.refl _ _) rfl _ _ rfl rfl rfl ?_)
              case a1 => first | omega | (simp <;> omega) | fail
              intro v8 w12 hown8 hb12
              obtain ⟨A8, d8, rfl, hd8⟩ := own_formI hown8
              have hz12 := hb12.size
              have hown8' : OwI (w12.alloc (.cells #[.int .i64 s] 3)) w11.heap.size (.slice A8 (L.take j).length d8) (L.take j) := hown8.alloc _
              have hb12' := hb12.alloc hz12 (.cells #[.int .i64 s] 3)
              have hS1 : Hid (Rd (w12.alloc (.cells #[.int .i64 s] 3)) (some ⟨w12.heap.size, 0, none⟩) [(s : Int)]) := Rd.of_block (t := 3) (heap_alloc_new w12 _)
              rw [hT1.out] at hown8'
              try rw [hT1.out]
              have hO8 := Lib.hid hown8'
              have hb12x := Lib.hid hb12'
              clear hown8 hown8' hb12'
              go_wp2_with (at_builtin; refine wpList_append_list _ (W0 := w11) (B := w11.heap.size) (xs := L.take j) (ys := [(s : Int)]) (by unfold OwI; exact hO8.out) hS1.out rfl ?b1 ?b2 hb12x.out rfl _ _ rfl rfl rfl ?_)
              case b1 => rw [hT1.out]; simp <;> omega
              case b2 => simp <;> omega
              intro v9 w13 hown9 hb13
              obtain ⟨A9, d9, rfl, hd9⟩ := own_formI hown9
              have hz13 := hb13.size
              have hD0 := Lib.hid (hRLx.out.below hb13)
              have hO9 := Lib.hid hown9
              have hb13x := Lib.hid hb13
              clear hown9 hb12 hb13
              go_wp2_with (at_builtin; refine wpList_append_list _ (W0 := w11) (B := w11.heap.size) (xs := L.take j ++ [(s : Int)]) (ys := L.drop j) hO9.out (fun h8 => absurd h8 (by have := hD1.out; omega)) hD1.out ?c1 ?c2 hb13x.out rfl _ _ rfl rfl rfl ?_)
              case c1 => rw [List.length_append, hT1.out]; simp <;> omega
              case c2 => exact hz13
              intro v10 w14 hown10 hb14
              have hO10 : Hid (OwI w14 w1.heap.size v10 (L.take j ++ (s : Int) :: L.drop j)) := by
                have h8 := own_base hown10 ((hbr.trans (hb11.mono hbr.size)).size)
                exact h8
              obtain ⟨A10, d10, rfl, hd10⟩ := own_formI hO10.out
              have hOP3 := Lib.hid (hOP.out.ins HV.out.i0 HX.out hz.out hlo.out (fun a h => by have := hlast.out a h; omega))
              have hb14' := hbr.trans ((below_next hb11 hb14).mono hbr.size)
              have hln : (L.take j ++ (s : Int) :: L.drop j).length ≤ s + 1 := by simp; have := HL.out; omega
              clear hown10 hb14
              go_wp2
              go_roundw
              case rel => exact ⟨s + 1, _, A10, d10, by omega, by go_num, rfl, hd10, hln, hO10, hOP3, hb14'⟩
              case measure => simp [intOf] <;> omega
    · have hsn : s = n := by omega
      have hF : Hid (Mc.Ord m L) := (show Mc.OP m is m.r.length L by have h8 := hn.out; have e : s = m.r.length := (by omega); rw [← e]; exact hOP.out).done HV.out HX.out HXL.out
      have hO2 := Lib.hid (own_base hO.out hbm.size)
      have hb2 := Lib.hid (hbm.trans (hbr.mono hbm.size))
      go_wp2
      try go_ret
      exact ⟨_, L, rfl, hO2.out, hF, hb2.out⟩
end Go.Proofs.Ytldpfbmkmehadaa
