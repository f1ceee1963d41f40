/-
  Contract: put of joins. No statement is proved here.
-/
import Derived.Test.YtgafpmgdpigliaaJo1
import Derived.Deep.RegionHeld3
namespace Go.Proofs.Ytgafpmgdpigliaa
open Go.RowKit
open Mc (Ed Ma Wv nE)

/-- Rows, of which those from f on have been written anew, s of them. -/
def putK (rs T : List (List Ed)) (f s : Nat) : List (List Ed) := rs.take f ++ T.take s ++ rs.drop (f + s)
/-- A row of which the first j edges have been written anew. -/
def curK (row old : List Ed) (j : Nat) : List Ed := row.take j ++ old.drop j
section
variable {rs T : List (List Ed)} {row old : List Ed} {f s j : Nat}
theorem putK_len (h : f + T.length ≤ rs.length) (hs : s ≤ T.length) : (putK rs T f s).length = rs.length := by simp [putK]; omega
theorem putK_zero : putK rs T f 0 = rs := by simp [putK]
theorem putK_at (h : f + T.length ≤ rs.length) (hs : s < T.length) : (putK rs T f s)[f + s]? = rs[f + s]? := by
  unfold putK
  rw [List.getElem?_append_right (by simp; omega), List.getElem?_drop]
  congr 1
  simp; omega
theorem putK_set (h : f + T.length ≤ rs.length) (hr : T[s]? = some row) : (putK rs T f s).set (f + s) row = putK rs T f (s + 1) := by
  have hs := (List.getElem?_eq_some_iff.1 hr).1
  have hl : (rs.take f ++ T.take s).length = f + s := by simp; omega
  unfold putK
  rw [List.set_append_right _ _ (by omega), hl, Nat.sub_self, List.drop_eq_getElem_cons (show f + s < rs.length by omega), List.set_cons_zero, List.take_add_one, hr]
  simp [Nat.add_assoc]
theorem curK_len (h : row.length = old.length) (hj : j ≤ row.length) : (curK row old j).length = row.length := by simp [curK]; omega
theorem curK_zero : curK row old 0 = old := by simp [curK]
theorem curK_all (h : row.length = old.length) : curK row old row.length = row := by rw [curK, List.take_length, List.drop_of_length_le (by omega), List.append_nil]
theorem curK_set {x : Ed} (h : row.length = old.length) (hx : row[j]? = some x) : (curK row old j).set j x = curK row old (j + 1) := by
  have hj := (List.getElem?_eq_some_iff.1 hx).1
  unfold curK
  rw [List.set_append_right _ _ (by simp; omega), List.length_take, Nat.min_eq_left (by omega), Nat.sub_self, List.drop_eq_getElem_cons (show j < old.length by omega), List.set_cons_zero, List.take_add_one, hx]
  simp
end
/-- The memory of put. -/
structure Pu (w0 w : World) (m : Ma) (A : Option Addr) (n c base p N : Nat) (gs : List Nat) (rs : List (List Ed)) (W : World) : Prop where
  b0 : Below w0.heap.size w0 W
  bw : Below base w W
  bm : BxM W w.heap.size m.i m.o A n c
  wb : Wb base p N rs gs W
  sz : w.heap.size < W.heap.size
  kp : ∀ k, k < w.heap.size → k ∉ gs → W.heap[k]? = w.heap[k]?
section
variable {w0 w W W' : World} {m : Ma} {A : Option Addr} {n c base p N : Nat} {gs : List Nat} {rs : List (List Ed)}
theorem Pu.below (h : Pu w0 w m A n c base p N gs rs W) (hb : base ≤ w.heap.size) (k : Below W.heap.size W W') : Pu w0 w m A n c base p N gs rs W' :=
  ⟨below_next h.b0 k, h.bw.trans (k.mono (by have := h.sz; omega)), h.bm.mvB k, h.wb.below k, by have := h.sz; have := k.size; omega, fun q hq hn => (k.block q (by have := h.sz; omega)).trans (h.kp q hq hn)⟩
theorem Pu.put {s i g : Nat} {row : List Ed} {x : Ed} (h : Pu w0 w m A n c base p N gs rs W) (hwl : ∀ g ∈ gs, g < w.heap.size) (hb : w0.heap.size ≤ base) (h1 : gs[s]? = some g) (h2 : rs[s]? = some row) (hi : i < row.length) :
    Pu w0 w m A n c base p N gs (rs.set s (row.set i x)) ((W.setCell ⟨g, i * 2, none⟩ (.int .i64 x.1)).setCell ⟨g, i * 2 + 1, none⟩ (.int .i64 x.2)) := by
  obtain ⟨o1, o2, o3⟩ := h.wb.own g (List.mem_of_getElem? h1)
  have hg := hwl g (List.mem_of_getElem? h1)
  exact ⟨(h.b0.setCell (p := ⟨g, i * 2, none⟩) (by show w0.heap.size ≤ g; omega) _).setCell (p := ⟨g, i * 2 + 1, none⟩) (by show w0.heap.size ≤ g; omega) _, (h.bw.setCell (p := ⟨g, i * 2, none⟩) o1 _).setCell (p := ⟨g, i * 2 + 1, none⟩) o1 _,
    (h.bm.farS (by omega) _).farS (by omega) _, h.wb.put h1 h2 hi, by simpa [World.setCell] using h.sz, fun q hq hn => by
      have hne : q ≠ g := fun e => hn (e ▸ List.mem_of_getElem? h1)
      exact (Below.heap_setCell _ _ _ _ hne).trans ((Below.heap_setCell _ _ _ _ hne).trans (h.kp q hq hn))⟩
end
set_option maxRecDepth 100000 in
set_option maxHeartbeats 4000000 in
theorem put_any (m : Ma) (V : Mc.Val m) (i : Nat) (A : Option Addr) (n c f base p N : Nat) (rs : List (List Ed)) (gs : List Nat) (w0 w : World) (hi : m.i = i) (hra : RdR w0 A m.r) (hn : m.r.length = n) (hW : Wb base p N rs gs w) (hgs : gs.length = N) (hN : rs.length = N) (hN64 : N ≤ 64)
    (h0 : Below w0.heap.size w0 w) (hb : w0.heap.size ≤ base) (hbw : base ≤ w.heap.size) (hrl : ∀ row ∈ rs, row.length = i) (hf : f + n ≤ N) :
    Calls Try.prog 65 #[.slice (some ⟨p, 0, none⟩) N N, .agg #[.int .i64 m.i, .int .i64 m.o, .slice A n c], .int .i64 f] w fun e w' => e = .returned (.tuple #[]) ∧ Wb base p N (putK rs (m.r.map fun row => row.map (Mc.sh f)) f n) gs w' ∧ Below base w w' ∧ ∀ k, k < w.heap.size → k ∉ gs → w'.heap[k]? = w.heap[k]? := by
  have hn64 := V.r1
  have hi16 := V.i1
  have HV := Lib.hid V
  have HI := Lib.hid hi
  have HN := Lib.hid hn
  have HRA := Lib.hid hra
  have HGS := Lib.hid hgs
  have HNN := Lib.hid hN
  have hwl := Lib.hid (fun g hg => (hW.own g hg).2.2)
  have hpl : p < w.heap.size := heap_lt hW.blk
  obtain ⟨T, hT⟩ : ∃ T, (m.r.map fun row => row.map (Mc.sh f)) = T := ⟨_, rfl⟩
  have hTl : Hid (T.length = n) := by show _ = _; rw [← hT, List.length_map, hn]
  have hTa : Hid (∀ (s : Nat) row, m.r[s]? = some row → T[s]? = some (row.map (Mc.sh f))) := fun s row h => by rw [← hT, List.getElem?_map, h]; rfl
  rw [hT]
  have hfT : Hid (f + T.length ≤ rs.length) := by show _ ≤ _; rw [hTl.out, hN]; exact hf
  have HRL := Lib.hid hrl
  have hbA : Below base w (w.alloc (.cells #[.int .i64 m.i, .int .i64 m.o, .slice A n c] 24)) := (Below.refl _ _).alloc hbw _
  have hbA2 : Below w.heap.size w (w.alloc (.cells #[.int .i64 m.i, .int .i64 m.o, .slice A n c] 24)) := (Below.refl _ _).alloc (Nat.le_refl _) _
  have hP0 : Hid (Pu w0 w m A n c base p N gs (putK rs T f 0) (w.alloc (.cells #[.int .i64 m.i, .int .i64 m.o, .slice A n c] 24))) := by
    show Pu _ _ _ _ _ _ _ _ _ _ _ _
    rw [putK_zero]
    exact ⟨below_next h0 hbA2, hbA, BxM.new w _ _ _ _ _, hW.below hbA2, by simp, fun k hk _ => Below.heap_alloc _ _ _ hk⟩
  obtain ⟨m0, m1, m2⟩ := hP0.out.bm.cells
  have hn6 : n ≤ 64 := by omega
  clear hT V hi hn hra hW hgs hN h0 hrl hbA hbA2 hn64 hi16
  go_enter Try.func65, Try.ntmps65
  go_wp2
  clear m0 m1 m2
  go_loopw [13] (fun v wr => ∃ s : Nat, s ≤ n ∧ v = .int .i64 s ∧ Hid (Pu w0 w m A n c base p N gs (putK rs T f s) wr)) (fun v _ => n - (intOf v).toNat)
  case atStart => exact ⟨0, Nat.zero_le _, rfl, hP0⟩
  case round =>
    obtain ⟨s, hs, rfl, hP⟩ := hrel
    clear hP0
    by_cases hsn : s < n
    · obtain ⟨b1, off1, R1, d1, n1, row, rfl, hb1, hcw0, _, _, _, hpw1, hln1, hqr1⟩ := HRA.out.at_ (k := s) (by rw [HN.out]; exact hsn)
      have hcw1 := (hP.out.b0.cell (p := ⟨b1, off1 + s, none⟩) hb1).trans hcw0
      have hn1 : Hid ((n1 : Int) = m.i) := by show _ = _; rw [← hln1.out]; exact HV.out.len row (List.mem_of_getElem? hqr1.out)
      have hn1i : n1 = i := by have h1 := hn1.out; have h2 := HI.out; omega
      have hn16 : n1 ≤ 16 := by have := hn1.out; have := HV.out.i1; omega
      obtain ⟨gk, hgk⟩ : ∃ g, gs[f + s]? = some g := ⟨_, List.getElem?_eq_getElem (by rw [HGS.out]; omega)⟩
      obtain ⟨old, hold⟩ : ∃ r, rs[f + s]? = some r := ⟨_, List.getElem?_eq_getElem (by rw [HNN.out]; omega)⟩
      have hol : Hid (old.length = n1) := by show _ = _; rw [hn1i]; exact HRL.out old (List.mem_of_getElem? hold)
      have hTs := Lib.hid (hTa.out s row hqr1.out)
      have hrl' : Hid ((row.map (Mc.sh f)).length = old.length) := by show _ = _; rw [List.length_map, hln1.out, hol.out]
      have hcat : Hid ((putK rs T f s)[f + s]? = some old) := by show _ = _; rw [putK_at hfT.out (by rw [hTl.out]; exact hsn)]; exact hold
      have hP1 : Hid (Pu w0 w m (some ⟨b1, off1, none⟩) n c base p N gs ((putK rs T f s).set (f + s) (curK (row.map (Mc.sh f)) old 0)) wr) := by
        show Pu _ _ _ _ _ _ _ _ _ _ _ _
        obtain ⟨h1, h2⟩ := List.getElem?_eq_some_iff.1 hcat.out
        rw [curK_zero, ← h2, List.set_getElem_self]
        exact hP.out
      have HGK := Lib.hid hgk
      have HRW := Lib.hid hpw1
      have HBK := Lib.hid hP.out.b0
      subst hn1i
      clear hP hgk hold hcw0
      go_wp2
      clear hcw1
      go_loopw [20] (fun v wr => ∃ j : Nat, j ≤ n1 ∧ v = .int .i64 j ∧ Hid (Pu w0 w m (some ⟨b1, off1, none⟩) n c base p N gs ((putK rs T f s).set (f + s) (curK (row.map (Mc.sh f)) old j)) wr)) (fun v _ => n1 - (intOf v).toNat)
      case atStart => exact ⟨0, Nat.zero_le _, rfl, hP1⟩
      case round =>
        obtain ⟨j, hj, rfl, hP⟩ := hrel
        clear hP1
        by_cases hjn : j < n1
        · obtain ⟨e1, o1, ex, ey, rfl, he1, hx0, hy0, hqe⟩ := hpw1.at_ (k := j) (by rw [hln1.out]; exact hjn)
          have x0 := (hP.out.b0.cell (p := ⟨e1, o1 + j * 2, none⟩) he1).trans hx0
          have y0 := (hP.out.b0.cell (p := ⟨e1, o1 + j * 2 + 1, none⟩) he1).trans hy0
          have hn64 : (n : Int) ≤ 64 := by omega
          have hml : (m.r.length : Int) = n := by rw [HN.out]
          have hok := HV.out.ok row (List.mem_of_getElem? hqr1.out) _ (List.mem_of_getElem? hqe.out)
          simp only at hok
          obtain ⟨cur, hcur⟩ : ∃ cur, curK (row.map (Mc.sh f)) old j = cur := ⟨_, rfl⟩
          have hcl : Hid (cur.length = n1) := by show _ = _; rw [← hcur, curK_len hrl'.out (by rw [List.length_map, hln1.out]; exact hj), List.length_map, hln1.out]
          rw [hcur] at hP
          have hset : Hid (cur.set j (Mc.sh f (ex, ey)) = curK (row.map (Mc.sh f)) old (j + 1)) := by
            show _ = _
            rw [← hcur]
            exact curK_set hrl'.out (by rw [List.getElem?_map, hqe.out]; rfl)
          have hra : Hid (((putK rs T f s).set (f + s) cur)[f + s]? = some cur) := by
            show _ = _
            rw [List.getElem?_set_self (List.getElem?_eq_some_iff.1 hcat.out).1]
          have hpl2 : p < wr.heap.size := heap_lt hP.out.wb.blk
          have hgk2 : gk < w.heap.size := hwl.out gk (List.mem_of_getElem? HGK.out)
          have hgp : gk ≠ p := (hP.out.wb.own gk (List.mem_of_getElem? HGK.out)).2.1
          have hgl : gk < wr.heap.size := (hP.out.wb.own gk (List.mem_of_getElem? HGK.out)).2.2
          have hsum : IntKind.i64.wrap ((f : Int) + s) = (f : Int) + s := IntWalk.i64_in _ (by omega)
          have hs0 : 0 ≤ (f : Int) + s := by omega
          have hj1 : (j : Int) < n1 := by omega
          have hs1 : (f : Int) + s < N := by omega
          have hs2 : ((f : Int) + s).toNat = f + s := by omega
          have key : ∀ fx fy : Int, Mc.sh f (ex, ey) = (fx, fy) → Hid (Pu w0 w m (some ⟨b1, off1, none⟩) n c base p N gs ((putK rs T f s).set (f + s) (curK (row.map (Mc.sh f)) old (j + 1))) (((wr.setCell ⟨gk, j * 2, none⟩ (.int .i64 fx)).setCell ⟨gk, j * 2 + 1, none⟩ (.int .i64 fy)).alloc (.cells #[.int .i64 fx, .int .i64 fy] 27)).drew) ∧
              (((wr.setCell ⟨gk, j * 2, none⟩ (.int .i64 fx)).setCell ⟨gk, j * 2 + 1, none⟩ (.int .i64 fy)).alloc (.cells #[.int .i64 fx, .int .i64 fy] 27)).drew.cell? ⟨p, f + s, none⟩ = some (.slice (some ⟨gk, 0, none⟩) n1 n1) ∧
              (((wr.setCell ⟨gk, j * 2, none⟩ (.int .i64 fx)).setCell ⟨gk, j * 2 + 1, none⟩ (.int .i64 fy)).alloc (.cells #[.int .i64 fx, .int .i64 fy] 27)).drew.cell? ⟨wr.heap.size, 0, none⟩ = some (.int .i64 fx) ∧
              (((wr.setCell ⟨gk, j * 2, none⟩ (.int .i64 fx)).setCell ⟨gk, j * 2 + 1, none⟩ (.int .i64 fy)).alloc (.cells #[.int .i64 fx, .int .i64 fy] 27)).drew.cell? ⟨wr.heap.size, 1, none⟩ = some (.int .i64 fy) := fun fx fy he => by
            have h1 := (hP.out.below hbw ((Below.refl _ _).alloc (Nat.le_refl _) (.cells #[.int .i64 fx, .int .i64 fy] 27))).put (i := j) (x := (fx, fy)) hwl.out hb HGK.out hra.out (by rw [hcl.out]; exact hjn)
            rw [List.set_set, ← he, hset.out] at h1
            have e1 : (.int .i64 (Mc.sh f (ex, ey)).1 : Value) = .int .i64 fx := by rw [he]
            have e2 : (.int .i64 (Mc.sh f (ex, ey)).2 : Value) = .int .i64 fy := by rw [he]
            rw [e1, e2] at h1
            have hbx : ((((wr.alloc (.cells #[.int .i64 fx, .int .i64 fy] 27)).setCell ⟨gk, j * 2, none⟩ (.int .i64 fx)).setCell ⟨gk, j * 2 + 1, none⟩ (.int .i64 fy))).heap[wr.heap.size]? = some (.cells #[.int .i64 fx, .int .i64 fy] 27) :=
              (Below.heap_setCell _ _ _ _ (show wr.heap.size ≠ gk by omega)).trans ((Below.heap_setCell _ _ _ _ (show wr.heap.size ≠ gk by omega)).trans (heap_alloc_new wr _))
            rw [World.setCell_alloc_past _ _ _ _ (by show gk < wr.heap.size; exact hgl), World.setCell_alloc_past _ _ _ _ (by show gk < (wr.setCell _ _).heap.size; simpa [World.setCell] using hgl)] at h1 hbx
            have h2 := h1.wb.at_ HGK.out (List.getElem?_set_self (List.getElem?_eq_some_iff.1 hcat.out).1) (by rw [List.length_set, HGS.out, putK_len hfT.out (by rw [hTl.out]; omega), HNN.out]; omega)
            rw [← hset.out, List.length_set, hcl.out] at h2
            exact ⟨h1.below hbw (Below.refl _ _).drew, h2, by show World.cell? _ _ = _; exact (cell_of_row _ _ _ _ _ (0, 0) hbx).trans rfl, by show World.cell? _ _ = _; exact (cell_of_row _ _ _ _ _ (0, 0) hbx).trans rfl⟩
          have KEY := Lib.hid key
          clear key
          have CL : Hid (∀ fx fy : Int, (wr.alloc (.cells #[.int .i64 fx, .int .i64 fy] 27)).cell? ⟨p, f + s, none⟩ = some (.slice (some ⟨gk, 0, none⟩) n1 n1) ∧ ∃ z0 z1, (wr.alloc (.cells #[.int .i64 fx, .int .i64 fy] 27)).cell? ⟨gk, j * 2, none⟩ = some (.int .i64 z0) ∧ (wr.alloc (.cells #[.int .i64 fx, .int .i64 fy] 27)).cell? ⟨gk, j * 2 + 1, none⟩ = some (.int .i64 z1) ∧ ∀ o, (wr.alloc (.cells #[.int .i64 fx, .int .i64 fy] 27)).frozen? ⟨gk, o, none⟩ = false) := fun fx fy => by
            have hRE := hP.out.below hbw ((Below.refl _ _).alloc (Nat.le_refl _) (.cells #[.int .i64 fx, .int .i64 fy] 27))
            have x1 := hRE.wb.at_ HGK.out hra.out (by rw [List.length_set, HGS.out, putK_len hfT.out (by rw [hTl.out]; omega), HNN.out]; omega)
            rw [hcl.out] at x1
            obtain ⟨ecs, hecs⟩ : ∃ v, cur[j]? = some v := ⟨_, List.getElem?_eq_getElem (by rw [hcl.out]; exact hjn)⟩
            have hgrow := hRE.wb.row (f + s) gk cur HGK.out hra.out
            obtain ⟨s0, s1⟩ := rowB_cells hgrow hecs
            exact ⟨x1, _, _, s0, s1, blk_frz hgrow⟩
          have CW : ∃ z0 z1, wr.cell? ⟨gk, j * 2, none⟩ = some (.int .i64 z0) ∧ wr.cell? ⟨gk, j * 2 + 1, none⟩ = some (.int .i64 z1) ∧ ∀ o, wr.frozen? ⟨gk, o, none⟩ = false := by
            obtain ⟨ecs, hecs⟩ : ∃ v, cur[j]? = some v := ⟨_, List.getElem?_eq_getElem (by rw [hcl.out]; exact hjn)⟩
            have hgrow := hP.out.wb.row (f + s) gk cur HGK.out hra.out
            obtain ⟨s0, s1⟩ := rowB_cells hgrow hecs
            exact ⟨_, _, s0, s1, blk_frz hgrow⟩
          obtain ⟨y0w, y1w, t0, t1, tf⟩ := CW
          rw [hml] at hok
          clear hP hx0 hy0 hcur hml
          rcases hok with ⟨rfl, rfl⟩ | ⟨h1, h2, h3, h4⟩
          · obtain ⟨HF, q0, q1, q2⟩ := KEY.out (-1) (-1) (by simp [Mc.sh])
            obtain ⟨x1, z0, z1, s0, s1, sf⟩ := CL.out (-1) (-1)
            obtain ⟨e0, e1', _, _⟩ := (BxE.new wr (-1) (-1)).cells
            have s0d : ((wr.alloc (.cells #[.int .i64 (-1), .int .i64 (-1)] 27)).drew).cell? ⟨gk, j * 2, none⟩ = some (.int .i64 z0) := s0
            have s1d : ((wr.alloc (.cells #[.int .i64 (-1), .int .i64 (-1)] 27)).drew).cell? ⟨gk, j * 2 + 1, none⟩ = some (.int .i64 z1) := s1
            have sfd : ∀ o, ((wr.alloc (.cells #[.int .i64 (-1), .int .i64 (-1)] 27)).drew).frozen? ⟨gk, o, none⟩ = false := sf
            clear KEY CL
            go_wp2_with fail
            go_region_held3 (fun w' => w'.cell? ⟨p, f + s, none⟩ = some (.slice (some ⟨gk, 0, none⟩) n1 n1) ∧ w'.cell? ⟨wr.heap.size, 0, none⟩ = some (.int .i64 (-1)) ∧ w'.cell? ⟨wr.heap.size, 1, none⟩ = some (.int .i64 (-1))) (first | exact ⟨x1, e0, e1'⟩ | exact ⟨q0, q1, q2⟩ | go_keep) (fail)
            go_wp2
            go_roundw
            case rel => exact ⟨j + 1, by omega, by go_num, HF⟩
            case measure => simp [intOf]; omega
          · have hne : (ex == -1) = false := by rw [beq_eq_false_iff_ne]; omega
            have hsu : IntKind.i64.wrap (ex + f) = ex + f := IntWalk.i64_in _ ⟨by omega, by omega⟩
            obtain ⟨HF, q0, q1, q2⟩ := KEY.out (ex + f) ey (by simp [Mc.sh, h1])
            obtain ⟨x1, z0, z1, s0, s1, sf⟩ := CL.out (ex + f) ey
            obtain ⟨e0, e1', _, _⟩ := (BxE.new wr (ex + f) ey).cells
            have s0d : ((wr.alloc (.cells #[.int .i64 (ex + f), .int .i64 ey] 27)).drew).cell? ⟨gk, j * 2, none⟩ = some (.int .i64 z0) := s0
            have s1d : ((wr.alloc (.cells #[.int .i64 (ex + f), .int .i64 ey] 27)).drew).cell? ⟨gk, j * 2 + 1, none⟩ = some (.int .i64 z1) := s1
            have sfd : ∀ o, ((wr.alloc (.cells #[.int .i64 (ex + f), .int .i64 ey] 27)).drew).frozen? ⟨gk, o, none⟩ = false := sf
            clear KEY CL
            go_wp2_with fail
            go_region_held3 (fun w' => w'.cell? ⟨p, f + s, none⟩ = some (.slice (some ⟨gk, 0, none⟩) n1 n1) ∧ w'.cell? ⟨wr.heap.size, 0, none⟩ = some (.int .i64 (ex + f)) ∧ w'.cell? ⟨wr.heap.size, 1, none⟩ = some (.int .i64 ey)) (first | exact ⟨x1, e0, e1'⟩ | exact ⟨q0, q1, q2⟩ | go_keep) (fail)
            go_wp2
            go_roundw
            case rel => exact ⟨j + 1, by omega, by go_num, HF⟩
            case measure => simp [intOf]; omega
        · have hjn2 : j = n1 := by omega
          have hP' : Hid (Pu w0 w m (some ⟨b1, off1, none⟩) n c base p N gs (putK rs T f (s + 1)) wr) := by
            have h1 := hP.out
            have h2 : curK (row.map (Mc.sh f)) old j = row.map (Mc.sh f) := by
              have h3 : j = (row.map (Mc.sh f)).length := by rw [List.length_map, hln1.out]; exact hjn2
              rw [h3]
              exact curK_all hrl'.out
            rw [h2, putK_set hfT.out hTs.out] at h1
            exact h1
          clear hP
          go_wp2
          go_roundw
          case rel => exact ⟨s + 1, by omega, by go_num, hP'⟩
          case measure => simp [intOf]; omega
    · obtain rfl : s = n := by omega
      have hW' := Lib.hid hP.out.wb
      have hB' := Lib.hid hP.out.bw
      have hK' := Lib.hid hP.out.kp
      clear hP
      go_wp2
      go_end0
      exact ⟨rfl, hW'.out, hB'.out, hK'.out⟩
end Go.Proofs.Ytgafpmgdpigliaa
