/-
  Contract: Restrict. No statement is proved here.
-/
import Derived.Test.YtgafpmgdpigliaaJo8
namespace Go.Proofs.Ytgafpmgdpigliaa
open Go.RowKit
open Mc (Ed Ma Wv nE)

/-- The memory of a function over one machine: its box, the result. -/
structure J1 (w : World) (a : Ma) (A : Option Addr) (n c : Nat) (W : World) : Prop where
  bel : Below w.heap.size w W
  ba : BxM W w.heap.size a.i a.o A n c
  bz : BxM W (w.heap.size + 1) 0 0 none 0 0
section
variable {w W W' : World} {a : Ma} {A : Option Addr} {n c : Nat}
theorem J1.mk_ (w : World) (a : Ma) (A : Option Addr) (n c : Nat) : J1 w a A n c ((boxM w a.i a.o A n c).alloc (.cells #[.int .i64 0, .int .i64 0, .slice none 0 0] 24)) :=
  ⟨((Below.refl _ _).alloc (Nat.le_refl _) _).alloc (by simp) _, (BxM.new w a.i a.o A n c).mvB ((Below.refl _ _).alloc (Nat.le_refl _) _), BxM.newE (by simp [boxM]) 0 0 none 0 0⟩
theorem J1.below (h : J1 w a A n c W) (k : Below W.heap.size W W') : J1 w a A n c W' := ⟨below_next h.bel k, h.ba.mvB k, h.bz.mvB k⟩
theorem J1.err (h : J1 w a A n c W) (x y v : Value) : Below w.heap.size w (((W.setCell ⟨w.heap.size + 1, 0, none⟩ x).setCell ⟨w.heap.size + 1, 1, none⟩ y).setCell ⟨w.heap.size + 1, 2, none⟩ v) := below_set3' h.bel (by omega) _ _ _
end
/-- The memory of rows that are written: a box that holds them. -/
structure Bw (w1 : World) (g8 : Nat) (i8 o8 : Int) (p N : Nat) (gs : List Nat) (rs : List (List Ed)) (W : World) : Prop where
  b1 : Below w1.heap.size w1 W
  bx : BxM W g8 i8 o8 (some ⟨p, 0, none⟩) N N
  wb : Wb w1.heap.size p N rs gs W
  gn : g8 ∉ gs
  g1 : w1.heap.size ≤ g8
section
variable {w1 W W' : World} {g8 p N : Nat} {i8 o8 : Int} {gs : List Nat} {rs : List (List Ed)}
theorem Bw.below (h : Bw w1 g8 i8 o8 p N gs rs W) (k : Below W.heap.size W W') : Bw w1 g8 i8 o8 p N gs rs W' := ⟨below_next h.b1 k, h.bx.mvB k, h.wb.below k, h.gn, h.g1⟩
theorem Bw.put {s i g : Nat} {row : List Ed} {x : Ed} (h : Bw w1 g8 i8 o8 p N gs rs W) (h1 : gs[s]? = some g) (h2 : rs[s]? = some row) (hi : i < row.length) :
    Bw w1 g8 i8 o8 p N gs (rs.set s (row.set i x)) ((W.setCell ⟨g, i * 2, none⟩ (.int .i64 x.1)).setCell ⟨g, i * 2 + 1, none⟩ (.int .i64 x.2)) := by
  obtain ⟨o1, o2, o3⟩ := h.wb.own g (List.mem_of_getElem? h1)
  have hne : g8 ≠ g := fun e => h.gn (e ▸ List.mem_of_getElem? h1)
  exact ⟨(h.b1.setCell (p := ⟨g, i * 2, none⟩) o1 _).setCell (p := ⟨g, i * 2 + 1, none⟩) o1 _, (h.bx.farS hne _).farS hne _, h.wb.put h1 h2 hi, h.gn, h.g1⟩
/-- Behind blank, with the box made. -/
theorem Bw.start {i : Nat} {o : Int} {w2 : World} (hW : Wb w1.heap.size p N rs gs w2) (hb : Below w1.heap.size w1 w2) : Bw w1 w2.heap.size i o p N gs rs (w2.alloc (.cells #[.int .i64 i, .int .i64 o, .slice (some ⟨p, 0, none⟩) N N] 24)) :=
  ⟨below_next hb ((Below.refl _ _).alloc (Nat.le_refl _) _), BxM.new w2 _ _ _ _ _, hW.below ((Below.refl _ _).alloc (Nat.le_refl _) _), fun h => by have := (hW.own _ h).2.2; omega, hb.size⟩
/-- What may be read and written of a row. -/
theorem Bw.cells {s i g L : Nat} {row : List Ed} (h : Bw w1 g8 i8 o8 p N gs rs W) (h1 : gs[s]? = some g) (h2 : rs[s]? = some row) (hL : row.length = L) (hi : i < L) :
    (∃ z0 z1, W.cell? ⟨g, i * 2, none⟩ = some (.int .i64 z0) ∧ W.cell? ⟨g, i * 2 + 1, none⟩ = some (.int .i64 z1)) ∧ ∀ o, W.frozen? ⟨g, o, none⟩ = false := by
  have hrow := h.wb.row s g row h1 h2
  obtain ⟨e, he⟩ : ∃ v, row[i]? = some v := ⟨_, List.getElem?_eq_getElem (by omega)⟩
  obtain ⟨c0, c1⟩ := rowB_cells hrow he
  exact ⟨⟨_, _, c0, c1⟩, blk_frz hrow⟩
end
/-- The error of Restrict. -/
def rech (a : Ma) (ins : List Int) : Int := if Mc.chk a ≠ 0 then Mc.chk a else if 16 < ins.length then 3 else if ins.length = 0 ∨ ¬ Dst ins a.i.toNat then 1 else 0
/-- The rows of a machine with some of the inputs. -/
def resT (a : Ma) (ins : List Int) : List (List Ed) := a.r.map fun row => ins.map fun z => (row[z.toNat]?).getD nE
set_option maxRecDepth 100000 in
set_option maxHeartbeats 2000000 in
theorem restrict_any (a : Ma) (A : Option Addr) (n c : Nat) (ins : List Int) (I : Option Addr) (L cI : Nat) (w : World) (hra : RdR w A a.r) (hn : a.r.length = n) (hnb : n ≤ 1000000) (hrl : ∀ row ∈ a.r, row.length ≤ 1000000) (hri : Rd w I ins) (hL : ins.length = L) (hL2 : L ≤ 9223372036854775807) :
    Calls Try.prog 61 #[.agg #[.int .i64 a.i, .int .i64 a.o, .slice A n c], .slice I L cI] w (JeP w (rech a ins) L a.o (resT a ins)) := by
  have hJ0 := J1.mk_ w a A n c
  obtain ⟨x0, x1, x2⟩ := hJ0.ba.cells
  obtain ⟨W0, hW0⟩ : ∃ W0, (boxM w a.i a.o A n c).alloc (.cells #[.int .i64 0, .int .i64 0, .slice none 0 0] 24) = W0 := ⟨_, rfl⟩
  have HCK := Lib.hid (jcheck1_any a A n c W0.heap.size (W0.alloc (.cells #[.int .i64 a.i, .int .i64 a.o, .slice A n c] 24)) (heap_alloc_new W0 _) (by rw [← hW0]; exact (hra.below hJ0.bel).below ((Below.refl _ _).alloc (Nat.le_refl _) _)) hn hnb hrl)
  have HRA := Lib.hid hra
  have HRI := Lib.hid hri
  have HN := Lib.hid hn
  have HL := Lib.hid hL
  obtain ⟨P0, hP0⟩ : ∃ P0, JeP w (rech a ins) L a.o (resT a ins) = P0 := ⟨_, rfl⟩
  have HP0 := Lib.hid hP0
  rw [hP0]
  rw [hW0] at hJ0 x0 x1 x2
  have HJ0 := Lib.hid hJ0
  have HW0 := Lib.hid hW0
  clear hJ0 hW0 hP0 hra hn hrl hnb hri hL
  go_enter Try.func61, Try.ntmps61
  go_upto_region 1 with fail
  try rw [HW0.out]
  go_wp2_with fail
  refine HCK.out.mono ?_
  rintro e w1 ⟨rfl, hb1⟩
  have hJ1 := Lib.hid (HJ0.out.below (((Below.refl _ _).alloc (Nat.le_refl _) _).trans (hb1.mono (by simp))))
  clear x0 x1 x2 hb1 HJ0 HW0 HCK
  obtain ⟨e0, e1, e2⟩ := hJ1.out.bz.cells
  obtain ⟨f0, f1, f2⟩ := hJ1.out.bz.frozen
  obtain ⟨x0, x1, x2⟩ := hJ1.out.ba.cells
  have hRZ := set3_reads hJ1.out.bz (.int .i64 0) (.int .i64 0) (.slice none 0 0)
  have hBZ := Lib.hid (hJ1.out.err (.int .i64 0) (.int .i64 0) (.slice none 0 0))
  by_cases hc : Mc.chk a = 0
  · have VA := Lib.hid (Mc.val_of hc)
    have HC := Lib.hid hc
    rw [hc]
    clear hc
    have hn64 : n ≤ 64 := by have := VA.out.r1; have := HN.out; omega
    by_cases h16 : 16 < L
    · have hoe : Hid (rech a ins = 3) := by show _ = _; unfold rech; rw [if_neg (by rw [HC.out]; simp), if_pos (by rw [HL.out]; exact h16)]
      have hd : decide ((16 : Int) < L) = true := decide_eq_true (by omega)
      obtain ⟨r0, r1, r2⟩ := hRZ
      go_wp2
      refine bodyPost_ret (v := .tuple #[.agg #[.int .i64 0, .int .i64 0, .slice none 0 0], .int .i64 3]) (by simp [results, Try.f61, go_sem, r0, r1, r2]) rfl ?_
      rw [← HP0.out, hoe.out]
      exact Or.inl ⟨by simp, rfl, hBZ.out⟩
    · have hd : decide ((16 : Int) < L) = false := decide_eq_false (by omega)
      by_cases h0 : L = 0
      · have hoe : Hid (rech a ins = 1) := by show _ = _; unfold rech; rw [if_neg (by rw [HC.out]; simp), if_neg (by rw [HL.out]; exact h16), if_pos (Or.inl (by rw [HL.out]; exact h0))]
        have hd0 : ((L : Int) == 0) = true := by rw [beq_iff_eq]; omega
        obtain ⟨r0, r1, r2⟩ := hRZ
        have H0 := Lib.hid h0
        clear h0
        go_wp2
        refine bodyPost_ret (v := .tuple #[.agg #[.int .i64 0, .int .i64 0, .slice none 0 0], .int .i64 1]) (by simp [results, Try.f61, go_sem, r0, r1, r2]) rfl ?_
        rw [← HP0.out, hoe.out]
        exact Or.inl ⟨by simp, rfl, hBZ.out⟩
      · have hd0 : ((L : Int) == 0) = false := by rw [beq_eq_false_iff_ne]; omega
        have hi : ((a.i.toNat : Nat) : Int) = a.i := by have := VA.out.i0; omega
        have HI := Lib.hid hi
        have hDC := distinct_any ins I L cI a.i.toNat w1 (HRI.out.below hJ1.out.bel) HL.out (by omega) (by have := VA.out.i1; omega)
        rw [hi] at hDC
        have HDC := Lib.hid hDC
        clear hDC hi
        go_wp2_with fail
        refine HDC.out.mono ?_
        rintro e w2 ⟨rfl, hb2⟩
        have hJ2 := Lib.hid (hJ1.out.below hb2)
        clear e0 e1 e2 f0 f1 f2 x0 x1 x2 hRZ hBZ hb2 HDC
        obtain ⟨e0, e1, e2⟩ := hJ2.out.bz.cells
        obtain ⟨f0, f1, f2⟩ := hJ2.out.bz.frozen
        obtain ⟨x0, x1, x2⟩ := hJ2.out.ba.cells
        by_cases hD : Dst ins a.i.toNat
        · have hoe : Hid (rech a ins = 0) := by show _ = _; unfold rech; rw [if_neg (by rw [HC.out]; simp), if_neg (by rw [HL.out]; exact h16), if_neg (by rw [HL.out]; rintro (h | h); exact h0 h; exact h hD)]
          have HD := Lib.hid hD
          rw [decide_eq_true hD]
          clear hD
          obtain ⟨bl, hbl⟩ : ∃ x, List.replicate n (List.replicate L nE) = x := ⟨_, rfl⟩
          have hBK := blank_any L a.o n w2 (by omega) (by omega)
          rw [hbl] at hBK
          have hbll : Hid (bl.length = n) := by show _ = _; rw [← hbl]; simp
          have hbla : Hid (∀ s, s < n → bl[s]? = some (List.replicate L nE)) := fun s hs => by rw [← hbl, List.getElem?_replicate, if_pos hs]
          have HBK := Lib.hid hBK
          clear hBK hbl
          go_wp2_with fail
          refine HBK.out.mono ?_
          rintro e w3 ⟨p, gs, rfl, hgs, hWb, hb3⟩
          have hB0 := Bw.start (i := L) (o := a.o) hWb hb3
          have HGS := Lib.hid hgs
          obtain ⟨g8, hg8⟩ : ∃ g, w3.heap.size = g := ⟨_, rfl⟩
          obtain ⟨W4, hW4⟩ : ∃ W4, w3.alloc (.cells #[.int .i64 (L : Int), .int .i64 a.o, .slice (some ⟨p, 0, none⟩) n n] 24) = W4 := ⟨_, rfl⟩
          rw [hg8, hW4] at hB0
          obtain ⟨T, hT⟩ : ∃ T, resT a ins = T := ⟨_, rfl⟩
          have HT := Lib.hid hT
          have hTl : Hid (T.length = n) := by show _ = _; rw [← hT]; unfold resT; rw [List.length_map]; exact HN.out
          have hTa : Hid (∀ (s : Nat) row, a.r[s]? = some row → T[s]? = some (ins.map fun z => (row[z.toNat]?).getD nE)) := fun s row h => by rw [← hT]; unfold resT; rw [List.getElem?_map, h]; rfl
          have hB1 : Hid (Bw w2 g8 L a.o p n gs (putK bl T 0 0) W4) := by show Bw _ _ _ _ _ _ _ _ _; rw [putK_zero]; exact hB0
          have HW4 := Lib.hid hW4
          have HG8 := Lib.hid hg8
          have hfT : Hid (0 + T.length ≤ bl.length) := by show _ ≤ _; rw [hTl.out, hbll.out]; omega
          clear hB0 hgs hWb hb3 hW4 hg8 hT e0 e1 e2 f0 f1 f2 x0 x1 x2
          obtain ⟨z0, z1, z2⟩ := hB1.out.bx.cells
          go_upto_region 9 with fail
          try rw [HW4.out]
          try rw [HG8.out]
          go_wp2
          clear z0 z1 z2
          go_loopw [45] (fun v wr => ∃ s : Nat, s ≤ n ∧ v = .int .i64 s ∧ Hid (Bw w2 g8 L a.o p n gs (putK bl T 0 s) wr)) (fun v _ => n - (intOf v).toNat)
          case atStart => exact ⟨0, Nat.zero_le _, rfl, hB1⟩
          case round =>
            obtain ⟨s, hs, rfl, hB⟩ := hrel
            clear hB1
            obtain ⟨W5, rfl⟩ : ∃ W5, W5 = wr := ⟨wr, rfl⟩
            by_cases hsn : s < n
            · obtain ⟨b1, off1, R1, d1, n1, row, rfl, hb1, hcw0, _, _, _, hpw1, hln1, hqr1⟩ := HRA.out.at_ (k := s) (by rw [HN.out]; exact hsn)
              have hn1 : Hid ((n1 : Int) = a.i) := by show _ = _; rw [← hln1.out]; exact VA.out.len row (List.mem_of_getElem? hqr1.out)
              obtain ⟨gk, hgk⟩ : ∃ g, gs[s]? = some g := ⟨_, List.getElem?_eq_getElem (by rw [HGS.out]; exact hsn)⟩
              have hTs := Lib.hid (hTa.out s row hqr1.out)
              obtain ⟨rowT, hrowT⟩ : ∃ r, (ins.map fun z => (row[z.toNat]?).getD nE) = r := ⟨_, rfl⟩
              have hRT : Hid (∀ (j : Nat) z, ins[j]? = some z → rowT[j]? = some ((row[z.toNat]?).getD nE)) := fun j z h => by rw [← hrowT, List.getElem?_map, h]; rfl
              have hrTl : Hid (rowT.length = L) := by show _ = _; rw [← hrowT, List.length_map]; exact HL.out
              rw [hrowT] at hTs
              clear hrowT
              have hrl' : Hid (rowT.length = (List.replicate L nE).length) := by show _ = _; rw [hrTl.out, List.length_replicate]
              have hcat : Hid ((putK bl T 0 s)[s]? = some (List.replicate L nE)) := by
                show _ = _
                have h := putK_at (f := 0) hfT.out (s := s) (by rw [hTl.out]; exact hsn)
                rw [Nat.zero_add] at h
                rw [h]
                exact hbla.out s hsn
              have hP1 : Hid (Bw w2 g8 L a.o p n gs ((putK bl T 0 s).set s (curK rowT (List.replicate L nE) 0)) W5) := by
                show Bw _ _ _ _ _ _ _ _ _
                obtain ⟨h1, h2⟩ := List.getElem?_eq_some_iff.1 hcat.out
                rw [curK_zero, ← h2, List.set_getElem_self]
                exact hB.out
              have c0 := hB.out.wb.at_ hgk hcat.out (by rw [HGS.out, putK_len hfT.out (by rw [hTl.out]; omega), hbll.out]; exact Nat.le_refl _)
              rw [List.length_replicate] at c0
              have hs1 : (s : Int) < n := by omega
              have HGK := Lib.hid hgk
              have HCW := Lib.hid hcw0
              clear hB hgk hcw0
              go_wp2
              clear c0
              go_loopw [52] (fun v wr => ∃ j : Nat, j ≤ L ∧ v = .int .i64 j ∧ Hid (Bw w2 g8 L a.o p n gs ((putK bl T 0 s).set s (curK rowT (List.replicate L nE) j)) wr)) (fun v _ => L - (intOf v).toNat)
              case atStart => exact ⟨0, Nat.zero_le _, rfl, hP1⟩
              case round =>
                obtain ⟨j, hj, rfl, hB⟩ := hrel
                clear hP1
                by_cases hjl : j < L
                · have hbel : Below w.heap.size w wr := below_next hJ2.out.bel hB.out.b1
                  obtain ⟨x0, x1, x2⟩ := (hJ2.out.below hB.out.b1).ba.cells
                  obtain ⟨bi, oi, z, rfl, hbi, hci, hz⟩ := HRI.out.at_ (k := j) (by rw [HL.out]; exact hjl)
                  have q0 := (hbel.cell (p := ⟨bi, oi + j, none⟩) hbi).trans hci
                  have hzl : Hid (ins[j]? = some z) := by
                    show _ = _
                    have h1 := hz.out
                    rw [List.getElem?_eq_getElem (by rw [HL.out]; exact hjl)] at h1 ⊢
                    exact congrArg some h1
                  obtain ⟨hz0, hz1⟩ := HD.out.2 z (List.mem_of_getElem? hzl.out)
                  obtain ⟨t, rfl⟩ := Int.eq_ofNat_of_zero_le hz0
                  have htn : t < n1 := by have h1 := hn1.out; have h2 := HI.out; omega
                  obtain ⟨e1, o1, ex, ey, rfl, he1, hx0, hy0, hqe⟩ := hpw1.at_ (k := t) (by rw [hln1.out]; exact htn)
                  have q1 := (hbel.cell (p := ⟨b1, off1 + s, none⟩) hb1).trans HCW.out
                  have q2 := (hbel.cell (p := ⟨e1, o1 + t * 2, none⟩) he1).trans hx0
                  have q3 := (hbel.cell (p := ⟨e1, o1 + t * 2 + 1, none⟩) he1).trans hy0
                  have ht1 : (t : Int) < n1 := by omega
                  have hj1 : (j : Int) < L := by omega
                  obtain ⟨cur, hcur⟩ : ∃ cur, curK rowT (List.replicate L nE) j = cur := ⟨_, rfl⟩
                  have hcl : Hid (cur.length = L) := by show _ = _; rw [← hcur, curK_len hrl'.out (by rw [hrTl.out]; exact hj), hrTl.out]
                  rw [hcur] at hB
                  have hset : Hid (cur.set j (ex, ey) = curK rowT (List.replicate L nE) (j + 1)) := by
                    show _ = _
                    rw [← hcur]
                    refine curK_set hrl'.out ?_
                    rw [hRT.out j _ hzl.out, Int.toNat_natCast, hqe.out]
                    rfl
                  have hra : Hid (((putK bl T 0 s).set s cur)[s]? = some cur) := by
                    show _ = _
                    rw [List.getElem?_set_self (List.getElem?_eq_some_iff.1 hcat.out).1]
                  obtain ⟨⟨v0, v1, t0, t1⟩, tf⟩ := hB.out.cells HGK.out hra.out hcl.out hjl
                  have hB2 := hB.out.put (x := (ex, ey)) HGK.out hra.out (by rw [hcl.out]; exact hjl)
                  rw [List.set_set, hset.out] at hB2
                  have HB2 := Lib.hid hB2
                  clear hB hB2 hcur hx0 hy0 hci hz hz0 hbel
                  go_wp2
                  go_roundw
                  case rel => exact ⟨j + 1, by omega, by go_num, HB2⟩
                  case measure => simp [intOf]; omega
                · have hjn : j = L := by omega
                  have hB' : Hid (Bw w2 g8 L a.o p n gs (putK bl T 0 (s + 1)) wr) := by
                    have h1 := hB.out
                    have h2 : curK rowT (List.replicate L nE) j = rowT := by
                      have h3 : j = rowT.length := by rw [hrTl.out]; exact hjn
                      rw [h3]
                      exact curK_all hrl'.out
                    have h4 := putK_set hfT.out hTs.out
                    rw [Nat.zero_add] at h4
                    rw [h2, h4] at h1
                    exact h1
                  have HJN := Lib.hid hjn
                  clear hB hjn
                  go_wp2
                  go_roundw
                  case rel => exact ⟨s + 1, by omega, by go_num, hB'⟩
                  case measure => simp [intOf]; omega
            · have hsn2 : s = n := by omega
              have hTT : Hid (putK bl T 0 s = T) := by
                show _ = _
                unfold putK
                rw [List.take_zero, List.nil_append, List.take_of_length_le (by rw [hTl.out]; omega), List.drop_of_length_le (by rw [hbll.out]; omega), List.append_nil]
              rw [hTT.out] at hB
              have hZ := (hJ2.out.below hB.out.b1).bz
              obtain ⟨z0, z1, z2⟩ := hB.out.bx.cells
              obtain ⟨e0, e1, e2⟩ := hZ.cells
              obtain ⟨f0, f1, f2⟩ := hZ.frozen
              obtain ⟨r0, r1, r2⟩ := set3_reads hZ (.int .i64 L) (.int .i64 a.o) (.slice (some ⟨p, 0, none⟩) n n)
              have hwz := hJ2.out.bel.size
              have hbzl := heap_lt hJ2.out.bz
              have HFin : Hid (JeP w (rech a ins) L a.o (resT a ins) (.returned (.tuple #[.agg #[.int .i64 L, .int .i64 a.o, .slice (some ⟨p, 0, none⟩) n n], .int .i64 0])) (((W5.setCell ⟨w.heap.size + 1, 0, none⟩ (.int .i64 L)).setCell ⟨w.heap.size + 1, 1, none⟩ (.int .i64 a.o)).setCell ⟨w.heap.size + 1, 2, none⟩ (.slice (some ⟨p, 0, none⟩) n n))) := by
                refine Or.inr ⟨hoe.out, p, n, gs, rfl, by show _ = _; rw [HT.out]; exact hTl.out, HGS.out, ?_, below_set3' (below_next hJ2.out.bel hB.out.b1) (by omega) _ _ _⟩
                rw [HT.out]
                exact (hB.out.wb.far3 hbzl _ _ _).base (by omega)
              have HS2 := Lib.hid hsn2
              clear hB hZ hsn2
              go_wp2
              refine bodyPost_ret (v := .tuple #[.agg #[.int .i64 L, .int .i64 a.o, .slice (some ⟨p, 0, none⟩) n n], .int .i64 0]) (by simp [results, Try.f61, go_sem, r0, r1, r2]) rfl ?_
              rw [← HP0.out]
              exact HFin.out
        · have hoe : Hid (rech a ins = 1) := by show _ = _; unfold rech; rw [if_neg (by rw [HC.out]; simp), if_neg (by rw [HL.out]; exact h16), if_pos (Or.inr hD)]
          obtain ⟨r0, r1, r2⟩ := set3_reads hJ2.out.bz (.int .i64 0) (.int .i64 0) (.slice none 0 0)
          have hBZ := Lib.hid (hJ2.out.err (.int .i64 0) (.int .i64 0) (.slice none 0 0))
          rw [decide_eq_false hD]
          clear hD
          go_wp2
          refine bodyPost_ret (v := .tuple #[.agg #[.int .i64 0, .int .i64 0, .slice none 0 0], .int .i64 1]) (by simp [results, Try.f61, go_sem, r0, r1, r2]) rfl ?_
          rw [← HP0.out, hoe.out]
          exact Or.inl ⟨by simp, rfl, hBZ.out⟩
  · obtain ⟨ce, hce⟩ : ∃ ce, Mc.chk a = ce := ⟨_, rfl⟩
    have hec : Hid (rech a ins = ce ∧ ce ≠ 0) := by
      refine ⟨?_, by rw [← hce]; exact hc⟩
      unfold rech
      rw [if_pos hc, hce]
    rw [hce] at hc ⊢
    have hne : (ce == 0) = false := by rw [beq_eq_false_iff_ne]; exact hc
    obtain ⟨r0, r1, r2⟩ := hRZ
    clear hce hc
    go_wp2
    refine bodyPost_ret (v := .tuple #[.agg #[.int .i64 0, .int .i64 0, .slice none 0 0], .int .i64 ce]) (by simp [results, Try.f61, go_sem, r0, r1, r2]) rfl ?_
    rw [← HP0.out, hec.out.1]
    exact Or.inl ⟨hec.out.2, rfl, hBZ.out⟩
end Go.Proofs.Ytgafpmgdpigliaa
