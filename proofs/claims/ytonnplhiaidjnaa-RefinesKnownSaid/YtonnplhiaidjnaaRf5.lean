/-
  Contracts of the reference of layer 7: Marked. No statement is proved here.
-/
import Derived.Test.YtonnplhiaidjnaaRf4
namespace Go.Proofs.Ytonnplhiaidjnaa
open Go.RowKit
open Mc (Ed Ma)

theorem boolrow_info : (Try.prog.info? 83).map (fun i => (i.zero, i.size, i.bytes)) = some (some (.slice none 0 0), 1, 24) := by kernel_rfl
set_option maxRecDepth 100000 in
set_option maxHeartbeats 4000000 in
theorem marked_any (m : Ma) (i k : Nat) (o : Int) (A : Option Addr) (n c : Nat) (w : World) (v : Mc.Val m) (hi : m.i = i) (hn : m.r.length = n) (hr : RdR w A m.r) (hk6 : k ≤ 1000000) :
    Calls Try.prog 52 #[.agg #[.int .i64 i, .int .i64 o, .slice A n c], .int .i64 k] w fun e w' => ∃ X q, e = .returned (.slice X n q) ∧ RdMx w' X n (prd (Mc.rnd m k)) ∧ Below w.heap.size w w' := by
  obtain ⟨i0, hi0, hz0, hz1, hz2⟩ := info_parts boolrow_info
  have hn64 : n ≤ 64 := by have := v.r1; omega
  have HI := Lib.hid hi
  have HV := Lib.hid v
  have HN := Lib.hid hn
  have HR := Lib.hid hr
  clear hi v hn hr
  have EB : Below w.heap.size w (boxM w i o A n c) := (Below.refl _ _).alloc (Nat.le_refl _) _
  have HB := Lib.hid EB
  have HM := Lib.hid (BxM.new w i o A n c)
  clear EB
  obtain ⟨m0, m1, m2⟩ := BxM.cells HM.out
  go_enter Try.func52, Try.ntmps52
  go_wp2_with fail
  clear m0 m1 m2
  go_loopw [6, 7] (fun x y wr => ∃ (s : Nat) (gs : List Nat), s ≤ n ∧ y = .int .i64 s ∧ Hid (gs.length = s) ∧ Hid (MxB wr (w.heap.size + 1) x n gs (List.replicate s (List.replicate n false))) ∧ Hid (BxM wr w.heap.size i o A n c) ∧ Hid (Below w.heap.size w wr)) (fun _ y _ => n - (intOf y).toNat)
  case atStart => exact ⟨0, [], Nat.zero_le _, rfl, rfl, MxB.nil_ _ _ _, HM, HB⟩
  case round =>
    clear HM HB
    obtain ⟨s, gs, hs, rfl, hgl, hX, hM, hbr⟩ := hrel
    by_cases hsn : s < n
    · have hsn' : (s : Int) < n := by omega
      go_wp2_with (at_make; refine wpList_make_bools _ rfl _ _ rfl _ n rfl rfl rfl (by omega) ?_)
      intro w1 hB1 hb1
      have hX1 := hX.out.below hb1
      have hlt := Lib.hid (fun x hx => MxB.lt hX.out (x := x) hx)
      have hM1 := Lib.hid (show BxM w1 w.heap.size i o A n c from hM.out.mvB hb1)
      have hbw := Lib.hid (below_next hbr.out hb1)
      have hgl2 := hgl.out
      have hsz := hb1.size
      have hown0 := hX1.1
      rw [hgl2] at hown0
      have hownA := hown0.alloc (.cells #[.slice (some ⟨wr.heap.size, 0, none⟩) n n] 83)
      have hm0 : w.heap.size < wr.heap.size := heap_lt hM.out
      have h1 := Lib.hid (cell_one_new w1 (t := 83) (.slice (some ⟨wr.heap.size, 0, none⟩) n n))
      have h2 : Hid (∀ u ∈ ([.slice (some ⟨wr.heap.size, 0, none⟩) n n] : List Value), u.oneCell' = true) := fun u hu => by simp at hu; subst hu; rfl
      have h3 : s + 1 ≤ maxLen := by unfold maxLen; omega
      have h4 : (s + 1) * 24 ≤ 140737488355328 := by omega
      have h5 : w.heap.size + 1 ≤ (w1.alloc (.cells #[.slice (some ⟨wr.heap.size, 0, none⟩) n n] 83)).heap.size := by simp; omega
      clear hX hM hbr
      go_wp2_with (at_builtin; refine wpList_append_own _ rfl _ _ 96 rfl (w.heap.size + 1) 83 i0 (.slice none 0 0) 1 24 Try.underlying96 hi0 hz0 hz1 hz2 rfl (by decide) _ _ _ rfl hownA ⟨w1.heap.size, 0, none⟩ 1 1 [.slice (some ⟨wr.heap.size, 0, none⟩) n n] rfl rfl h1.out h2.out h3 h4 h5 ?_)
      intro v1 w5 hown1 hg1 _
      have hX5 : Hid (MxB w5 (w.heap.size + 1) v1 n (gs ++ [wr.heap.size]) (List.replicate (s + 1) (List.replicate n false))) := by
        show MxB _ _ _ _ _ _
        rw [List.replicate_succ']
        have hXa := hX1.below ((Below.refl _ _).alloc (Nat.le_refl _) (.cells #[.slice (some ⟨wr.heap.size, 0, none⟩) n n] 83))
        refine hXa.push (fun x hx e => by have := hlt.out x hx; omega) ((((Below.refl _ _).alloc (Nat.le_refl _) _).block _ hB1.out.lt).trans hB1.out) (by omega) (by simp) (by rw [hgl2]; exact hown1) hg1
      have hbF := Lib.hid ((hbw.out.alloc hbw.out.size (.cells #[.slice (some ⟨wr.heap.size, 0, none⟩) n n] 83)).grown hg1 (by simp; omega) (fun j hj => by have := (hownA.lt j hj).1; omega))
      have hM5 : Hid (BxM w5 w.heap.size i o A n c) := by
        show BxM _ _ _ _ _ _ _
        have h0 : BxM (w1.alloc (.cells #[.slice (some ⟨wr.heap.size, 0, none⟩) n n] 83)) w.heap.size i o A n c := hM1.out.mvB ((Below.refl _ _).alloc (Nat.le_refl _) _)
        exact (hg1.block _ (heap_lt h0) (fun e => by have := (hownA.lt _ e.symm).1; omega)).trans h0
      have hgl5 : Hid ((gs ++ [wr.heap.size]).length = s + 1) := by show _ = _; simp [hgl2]
      clear hown1 hg1 hownA hown0 hX1 h1 h2 h3 h4 h5 hlt hB1 hb1 hM1 hbw
      go_wp2_with fail
      go_roundw
      case rel => exact ⟨s + 1, _, by omega, by go_num, hgl5, hX5, hM5, hbF⟩
      case measure => simp [intOf]; omega
    · have hsn' : decide ((s : Int) < n) = false := decide_eq_false (by omega)
      obtain rfl : s = n := by omega
      obtain ⟨X0, q0, rfl, hx0⟩ := hX.out.rd hgl.out (f := prd (Mc.rnd m 0)) (fun s' t' h1 h2 => by
        have h0 : prd (Mc.rnd m 0) s' t' = false := by
          unfold prd
          rw [Mc.rnd, Mc.rep_gz (by have := HN.out; omega), Mc.rep_gz (by have := HN.out; omega)]
          rfl
        rw [h0, List.getElem?_replicate, if_pos h1, Option.getD_some, List.getElem?_replicate, if_pos h2])
      have HX0 := Lib.hid hx0
      clear hx0 hX
      go_wp2_with fail
      go_loopw [6, 8] (fun x y wr => ∃ (r : Nat) (X : Option Addr) (q : Nat), r ≤ k ∧ y = .int .i64 r ∧ x = .slice X s q ∧ Hid (RdMx wr X s (prd (Mc.rnd m r))) ∧ Hid (BxM wr w.heap.size i o A s c) ∧ Hid (Below w.heap.size w wr)) (fun _ y _ => k - (intOf y).toNat)
      case atStart => exact ⟨0, X0, q0, Nat.zero_le _, rfl, rfl, HX0, hM, hbr⟩
      case round =>
        clear HX0 hM hbr
        obtain ⟨r, X, q, hrk, rfl, rfl, hX, hM, hbr⟩ := hrel
        by_cases hrk2 : r < k
        · have hrk' : decide ((r : Int) < k) = true := decide_eq_true (by omega)
          go_wp2_with fail
          obtain ⟨wo, rfl⟩ : ∃ wo : World, wo = wr := ⟨_, rfl⟩
          go_loopw [9, 10] (fun x y wr => ∃ (u : Nat) (gs : List Nat) (L : List (List Bool)), u ≤ s ∧ y = .int .i64 u ∧ Hid (gs.length = u) ∧ Hid (MxB wr wo.heap.size x s gs L) ∧ Hid (∀ s' t', s' < u → t' < s → (L[s']?.getD [])[t']? = some (prd (Mc.rnd m (r + 1)) s' t')) ∧ Hid (Below wo.heap.size wo wr)) (fun _ y _ => s - (intOf y).toNat)
          case atStart => exact ⟨0, [], [], Nat.zero_le _, rfl, rfl, MxB.nil_ _ _ _, fun _ _ h => absurd h (by omega), Below.refl _ _⟩
          case round =>
            obtain ⟨u, gs, L, hu, rfl, hgl9, hY, hval, hbw⟩ := hrel
            by_cases hus : u < s
            · have hus' : decide ((u : Int) < s) = true := decide_eq_true (by omega)
              go_wp2_with (at_make; refine wpList_make_bools _ rfl _ _ rfl _ s rfl rfl rfl (by omega) ?_)
              intro w1 hB1 hb1
              have hX1 := hY.out.below hb1
              have hlt := Lib.hid (fun x hx => MxB.lt hY.out (x := x) hx)
              have hbw1 := Lib.hid (below_next hbw.out hb1)
              have hgl2 := hgl9.out
              have hLL : Hid (L.length = u) := by have := hY.out.2.1; show _ = _; omega
              have hsz := hb1.size
              have hsz2 := hbw.out.size
              have hown0 := hX1.1
              rw [hgl2] at hown0
              have hownA := hown0.alloc (.cells #[.slice (some ⟨wr.heap.size, 0, none⟩) s s] 83)
              have h1 := Lib.hid (cell_one_new w1 (t := 83) (.slice (some ⟨wr.heap.size, 0, none⟩) s s))
              have h2 : Hid (∀ u ∈ ([.slice (some ⟨wr.heap.size, 0, none⟩) s s] : List Value), u.oneCell' = true) := fun u hu => by simp at hu; subst hu; rfl
              have h3 : u + 1 ≤ maxLen := by unfold maxLen; omega
              have h4 : (u + 1) * 24 ≤ 140737488355328 := by omega
              have h5 : wo.heap.size ≤ (w1.alloc (.cells #[.slice (some ⟨wr.heap.size, 0, none⟩) s s] 83)).heap.size := by simp; omega
              clear hY hbw
              go_wp2_with (at_builtin; refine wpList_append_own _ rfl _ _ 96 rfl wo.heap.size 83 i0 (.slice none 0 0) 1 24 Try.underlying96 hi0 hz0 hz1 hz2 rfl (by decide) _ _ _ rfl hownA ⟨w1.heap.size, 0, none⟩ 1 1 [.slice (some ⟨wr.heap.size, 0, none⟩) s s] rfl rfl h1.out h2.out h3 h4 h5 ?_)
              intro v1 w5 hown1 hg1 _
              have hX5 : Hid (MxB w5 wo.heap.size v1 s (gs ++ [wr.heap.size]) (L ++ [List.replicate s false])) := by
                show MxB _ _ _ _ _ _
                have hXa := hX1.below ((Below.refl _ _).alloc (Nat.le_refl _) (.cells #[.slice (some ⟨wr.heap.size, 0, none⟩) s s] 83))
                exact hXa.push (fun x hx e => by have := hlt.out x hx; omega) ((((Below.refl _ _).alloc (Nat.le_refl _) _).block _ hB1.out.lt).trans hB1.out) (by omega) (by simp) (by rw [hgl2]; exact hown1) hg1
              have hbF := Lib.hid ((hbw1.out.alloc hbw1.out.size (.cells #[.slice (some ⟨wr.heap.size, 0, none⟩) s s] 83)).grown hg1 h5 (fun j hj => (hownA.lt j hj).1))
              have hgl5 : Hid ((gs ++ [wr.heap.size]).length = u + 1) := by show _ = _; simp [hgl2]
              clear hown1 hg1 hownA hown0 hX1 h1 h2 h3 h4 h5 hlt hB1 hb1 hbw1 hgl9 hgl2
              obtain ⟨gs1, hgs1⟩ : ∃ gs1, gs ++ [wr.heap.size] = gs1 := ⟨_, rfl⟩
              rw [hgs1] at hX5 hgl5
              clear hgs1
              go_wp2_with fail
              go_loopw [11] (fun y wy => ∃ (t : Nat) (row : List Bool), t ≤ s ∧ y = .int .i64 t ∧ Hid (MxB wy wo.heap.size v1 s gs1 (L ++ [row])) ∧ Hid (∀ t', t' < t → row[t']? = some (prd (Mc.rnd m (r + 1)) u t')) ∧ Hid (Below wo.heap.size wo wy)) (fun y _ => s - (intOf y).toNat)
              case atStart => exact ⟨0, _, Nat.zero_le _, rfl, hX5, fun _ h => absurd h (by omega), hbF⟩
              case round =>
                clear hX5 hbF
                obtain ⟨t, row, ht, rfl, hY, hrow, hbw⟩ := hrel
                by_cases hts : t < s
                · have hts' : decide ((t : Int) < s) = true := decide_eq_true (by omega)
                  obtain ⟨p9, c9, g9, row9, hv9, e9, l9, hp9, k9, hb9, hl9⟩ := hY.out.at_ (k := u) (by have := hgl5.out; omega)
                  have hrr : row9 = row := by
                    rw [List.getElem?_append_right (by have := hLL.out; omega), hLL.out, Nat.sub_self] at l9
                    simp at l9
                    exact l9.symm
                  subst hrr
                  rw [hgl5.out] at hv9
                  subst hv9
                  obtain ⟨zz, kz, fz, _⟩ := hb9.at_ (k := t) (by omega)
                  obtain ⟨xb, xo, rfl, hxb, hxr⟩ := (hX.out.below hbw.out) (by omega)
                  obtain ⟨gb, go, gc, x1, x2, x3⟩ := hxr u hus
                  have x4 := x3 t hts
                  have hMy := Lib.hid (show BxM wr w.heap.size i o A s c from hM.out.mvB hbw.out)
                  have hAI := Mc.apt_iff HV.out (Mc.rnd m r) (s := u) (t := t) (i := i) (by have := HN.out; omega) (by have := HN.out; omega) HI.out
                  have HA := Lib.hid hAI
                  have hpl := Lib.hid hp9
                  have z1 : xb < wr.heap.size := hxb
                  have z2 : gb < wr.heap.size := x2
                  have z3 : p9 < wr.heap.size := hp9
                  have HG9 := Lib.hid hb9
                  have hfin : ∀ b : Bool, b = prd (Mc.rnd m (r + 1)) u t → ∀ t', t' < t + 1 → (row9.set t b)[t']? = some (prd (Mc.rnd m (r + 1)) u t') := fun b e t' h => by
                    rcases Nat.lt_or_ge t' t with h4 | h4
                    · rw [List.getElem?_set_ne (by omega)]
                      exact hrow.out t' h4
                    · obtain rfl : t' = t := by omega
                      rw [List.getElem?_set_self (by omega), e]
                  have HF := Lib.hid hfin
                  have hset : ∀ b : Bool, (L ++ [row9]).set u (row9.set t b) = L ++ [row9.set t b] := fun b => by
                    rw [List.set_append_right _ _ (by have := hLL.out; omega), hLL.out, Nat.sub_self]
                    rfl
                  have HS := Lib.hid hset
                  have HL9 := Lib.hid l9
                  have HE9 := Lib.hid e9
                  clear hAI hp9 hxb x2 x3 hxr hb9 hrow hfin hset l9 e9 hl9
                  cases hf0 : prd (Mc.rnd m r) u t with
                  | true =>
                    rw [hf0] at x4
                    have hnew : Hid (true = prd (Mc.rnd m (r + 1)) u t) := by
                      show _ = _
                      have h := HA.out
                      unfold prd at hf0 ⊢
                      rw [hf0, Bool.true_or] at h
                      rw [h]
                      rfl
                    go_upto_region 18 with fail
                    go_region
                    all_goals
                      have hb0 : wo.heap.size ≤ g9 := (hY.out.2.2.2 u g9 row9 HE9.out HL9.out).1
                      have hYn := Lib.hid ((hY.out.set_ HE9.out HL9.out t true).below (Below.refl _ _).drew)
                      rw [HS.out] at hYn
                      have hbn := Lib.hid ((hbw.out.setCell (p := ⟨g9, t, none⟩) hb0 (.bool true)).drew)
                      have hrn := Lib.hid (HF.out true hnew.out)
                      clear hY hbw hb0 HF hMy
                      go_wp2_with fail
                      go_roundw
                      case rel => exact ⟨t + 1, row9.set t true, by omega, by go_num, hYn, hrn, hbn⟩
                      case measure => simp [intOf]; omega
                  | false =>
                    rw [hf0] at x4
                    obtain ⟨f, hf⟩ : ∃ f, Mc.apt m (Mc.rnd m r) u t i = f := ⟨_, rfl⟩
                    have hnew : Hid (f = prd (Mc.rnd m (r + 1)) u t) := by
                      show _ = _
                      have h := HA.out
                      unfold prd at hf0 ⊢
                      rw [hf0, Bool.false_or, hf] at h
                      exact h
                    obtain ⟨m0, m1, m2⟩ := BxM.cells hMy.out
                    have CA := fun w1 h1 h2 => apart_any m i o A (some ⟨xb, xo, none⟩) s c q u t (Mc.rnd m r) w1 HV.out HI.out HN.out h1 h2 hus hts
                    rw [hf] at CA
                    have HXm := Lib.hid (hX.out.below hbw.out)
                    have HRm := Lib.hid (HR.out.below (below_next hbr.out hbw.out))
                    have z4 : w.heap.size < wr.heap.size := heap_lt hMy.out
                    have z5 : g9 < wr.heap.size := heap_lt HG9.out
                    have hub : (u : Int) < (u : Int) + 1 := by omega
                    have hlen9 := (hY.out.2.2.2 u g9 row9 HE9.out HL9.out).2.1
                    have HLEN := Lib.hid hlen9
                    clear hf hf0 hlen9
                    go_upto_region 18 with fail
                    cases f with
                    | true =>
                      go_region_law
                        (first
                          | (go_simp
                             go_at_call 76
                             (with_reducible refine (CA _ (HRm.out.below (Below.refl _ _).drew) (HXm.out.below (Below.refl _ _).drew)).mono ?_)
                             rintro e w7 ⟨rfl, hb7⟩
                             have q7 := below_next (Below.refl _ _).drew hb7
                             have c1 := (q7.cell (p := ⟨p9, u, none⟩) z3).trans k9
                             have hb9' := (q7.block _ z5).trans HG9.out
                             obtain ⟨z7, k7, f7, _⟩ := BlkB.at_ (show BlkB w7 g9 row9 from hb9') (k := t) (by rw [HLEN.out]; exact hts)
                             dsimp only)
                          | fail)
                      all_goals
                        have hb0 : wo.heap.size ≤ g9 := (hY.out.2.2.2 u g9 row9 HE9.out HL9.out).1
                        have hYn := Lib.hid ((hY.out.below q7).set_ HE9.out HL9.out t true)
                        rw [HS.out] at hYn
                        have hbn := Lib.hid ((below_next hbw.out q7).setCell (p := ⟨g9, t, none⟩) hb0 (.bool true))
                        have hrn := Lib.hid (HF.out true hnew.out)
                        clear hY hbw hb0 HF hMy HXm HRm CA q7 hb7 k7 f7 c1 m0 m1 m2
                        go_wp2_with fail
                        go_roundw
                        case rel => exact ⟨t + 1, row9.set t true, by omega, by go_num, hYn, hrn, hbn⟩
                        case measure => simp [intOf]; omega
                    | false =>
                      go_region_law
                        (first
                          | (go_simp
                             go_at_call 76
                             (with_reducible refine (CA _ (HRm.out.below (Below.refl _ _).drew) (HXm.out.below (Below.refl _ _).drew)).mono ?_)
                             rintro e w7 ⟨rfl, hb7⟩
                             have q7 := below_next (Below.refl _ _).drew hb7
                             have c1 := (q7.cell (p := ⟨p9, u, none⟩) z3).trans k9
                             have hb9' := (q7.block _ z5).trans HG9.out
                             obtain ⟨z7, k7, f7, _⟩ := BlkB.at_ (show BlkB w7 g9 row9 from hb9') (k := t) (by rw [HLEN.out]; exact hts)
                             dsimp only)
                          | fail)
                      all_goals
                        have hb0 : wo.heap.size ≤ g9 := (hY.out.2.2.2 u g9 row9 HE9.out HL9.out).1
                        have hYn := Lib.hid ((hY.out.below q7).set_ HE9.out HL9.out t false)
                        rw [HS.out] at hYn
                        have hbn := Lib.hid ((below_next hbw.out q7).setCell (p := ⟨g9, t, none⟩) hb0 (.bool false))
                        have hrn := Lib.hid (HF.out false hnew.out)
                        clear hY hbw hb0 HF hMy HXm HRm CA q7 hb7 k7 f7 c1 m0 m1 m2
                        go_wp2_with fail
                        go_roundw
                        case rel => exact ⟨t + 1, row9.set t false, by omega, by go_num, hYn, hrn, hbn⟩
                        case measure => simp [intOf]; omega
                · have hts' : decide ((t : Int) < s) = false := decide_eq_false (by omega)
                  obtain rfl : t = s := by omega
                  have hval2 : Hid (∀ s' t', s' < u + 1 → t' < t → ((L ++ [row])[s']?.getD [])[t']? = some (prd (Mc.rnd m (r + 1)) s' t')) := fun s' t' h1 h2 => by
                    rcases Nat.lt_or_ge s' u with h3 | h3
                    · rw [List.getElem?_append_left (by have := hLL.out; omega)]
                      exact hval.out s' t' h3 h2
                    · obtain rfl : s' = u := by omega
                      rw [List.getElem?_append_right (by have := hLL.out; omega), hLL.out, Nat.sub_self]
                      exact hrow.out t' h2
                  go_wp2_with fail
                  go_roundw
                  case rel => exact ⟨u + 1, gs1, _, by omega, by go_num, hgl5, hY, hval2, hbw⟩
                  case measure => simp [intOf]; omega
            · have hus' : decide ((u : Int) < s) = false := decide_eq_false (by omega)
              obtain rfl : u = s := by omega
              obtain ⟨X9, q9, rfl, hx9⟩ := hY.out.rd hgl9.out (f := prd (Mc.rnd m (r + 1))) (fun s' t' h1 h2 => hval.out s' t' h1 h2)
              have HX9 := Lib.hid hx9
              have hM9 := Lib.hid (show BxM wr w.heap.size i o A u c from hM.out.mvB hbw.out)
              have hb9 := Lib.hid (below_next hbr.out hbw.out)
              clear hx9 hY hval
              go_wp2_with fail
              go_roundw
              case rel => exact ⟨r + 1, X9, q9, by omega, by go_num, rfl, HX9, hM9, hb9⟩
              case measure => simp [intOf]; omega
        · have hrk' : decide ((r : Int) < k) = false := decide_eq_false (by omega)
          obtain rfl : r = k := by omega
          go_wp2_with fail
          go_ret
          exact ⟨X, q, rfl, hX.out, hbr.out⟩
end Go.Proofs.Ytonnplhiaidjnaa
