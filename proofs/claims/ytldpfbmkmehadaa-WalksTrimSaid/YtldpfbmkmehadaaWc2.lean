/-
  Contract: renumbered. No statement is proved here.
-/
import Derived.Test.YtldpfbmkmehadaaWc1
import Derived.Deep.RegionHeld3
namespace Go.Proofs.Ytldpfbmkmehadaa
open Go.RowKit Go.Maps
open Mc (Ed Ma)

theorem BxM.frozen {w : World} {g n c : Nat} {i o : Int} {A : Option Addr} (h : BxM w g i o A n c) : w.frozen? ⟨g, 0, none⟩ = false ∧ w.frozen? ⟨g, 1, none⟩ = false ∧ w.frozen? ⟨g, 2, none⟩ = false := by
  unfold BxM at h
  refine ⟨?_, ?_, ?_⟩ <;> simp [World.frozen?, h]
theorem set3_reads {w : World} {g n c : Nat} {i o : Int} {A : Option Addr} (h : BxM w g i o A n c) (x y v : Value) :
    (w.setCell ⟨g, 0, none⟩ x).cell? ⟨g, 0, none⟩ = some x ∧ ((w.setCell ⟨g, 0, none⟩ x).setCell ⟨g, 1, none⟩ y).cell? ⟨g, 1, none⟩ = some y ∧ (((w.setCell ⟨g, 0, none⟩ x).setCell ⟨g, 1, none⟩ y).setCell ⟨g, 2, none⟩ v).cell? ⟨g, 2, none⟩ = some v := by
  unfold BxM at h
  have h0 : (w.setCell ⟨g, 0, none⟩ x).heap[g]? = some (.cells #[x, .int .i64 o, .slice A n c] 27) := by simp [World.setCell, Array.getElem?_modify, h]
  have h1 : ((w.setCell ⟨g, 0, none⟩ x).setCell ⟨g, 1, none⟩ y).heap[g]? = some (.cells #[x, y, .slice A n c] 27) := by simp [World.setCell, Array.getElem?_modify, h]
  have h2 : (((w.setCell ⟨g, 0, none⟩ x).setCell ⟨g, 1, none⟩ y).setCell ⟨g, 2, none⟩ v).heap[g]? = some (.cells #[x, y, v] 27) := by simp [World.setCell, Array.getElem?_modify, h]
  refine ⟨?_, ?_, ?_⟩
  · rw [cell_of_row _ _ _ _ _ _ h0]; rfl
  · rw [cell_of_row _ _ _ _ _ _ h1]; rfl
  · rw [cell_of_row _ _ _ _ _ _ h2]; rfl

/-- The memory of renumbered while its map is made. -/
structure Rm (w : World) (m : Ma) (A : Option Addr) (c k : Nat) (D : DataW Unit) (W : World) : Prop where
  bel : Below w.heap.size w W
  bm : BxM W w.heap.size m.i m.o A m.r.length c
  bo : BxM W (w.heap.size + 1) 0 0 none 0 0
  mx : MX W (w.heap.size + 1 + 1) (w.heap.size + 1 + 1 + 1) k D
theorem Rm.next {w W W' : World} {m : Ma} {A : Option Addr} {c k k' : Nat} {D D' : DataW Unit} (h : Rm w m A c k D W) (hg : W.grownBy W' (some (w.heap.size + 1 + 1))) (ho : W'.ownsMap Try.prog 3 (plainElem (H := Unit) Try.prog 3) (w.heap.size + 1 + 1) k' D') : Rm w m A c k' D' W' := by
  obtain ⟨x, hx, _⟩ := cell_block h.mx.box
  refine ⟨h.bel.grown hg h.bel.size (fun j e => by have := Option.some.inj e; omega), (hg.block w.heap.size (heap_lt h.bm) (fun e => by have := Option.some.inj e; omega)).trans h.bm, (hg.block (w.heap.size + 1) (heap_lt h.bo) (fun e => by have := Option.some.inj e; omega)).trans h.bo, ho, ?_⟩
  exact (World.cell?_of_block (w := W) (a := ⟨w.heap.size + 1 + 1 + 1, 0, none⟩) (hg.block (w.heap.size + 1 + 1 + 1) (heap_lt hx) (fun e => by have := Option.some.inj e; omega))).trans h.mx.box
theorem below_set3' {B : Nat} {a w : World} (h : Below B a w) {g : Nat} (hg : B ≤ g) (x y v : Value) : Below B a (((w.setCell ⟨g, 0, none⟩ x).setCell ⟨g, 1, none⟩ y).setCell ⟨g, 2, none⟩ v) :=
  ((h.setCell (p := ⟨g, 0, none⟩) hg x).setCell (p := ⟨g, 1, none⟩) hg y).setCell (p := ⟨g, 2, none⟩) hg v
theorem Wb.far {base p n g off : Nat} {rs : List (List Ed)} {gs : List Nat} {W : World} (h : Wb base p n rs gs W) (h1 : p ≠ g) (h2 : ∀ k ∈ gs, k ≠ g) (u : Value) : Wb base p n rs gs (W.setCell ⟨g, off, none⟩ u) :=
  ⟨(Below.heap_setCell W ⟨g, off, none⟩ u p h1).trans h.blk, fun k q row a b => (Below.heap_setCell W ⟨g, off, none⟩ u q (h2 q (List.mem_of_getElem? a))).trans (h.row k q row a b), fun k hk => ⟨(h.own k hk).1, (h.own k hk).2.1, by simpa [World.setCell] using (h.own k hk).2.2⟩, h.inj, h.p0⟩
/-- What renumbered hands back. -/
def RnP (w : World) (m : Ma) (l : List Int) (e : Ending) (w' : World) : Prop := ∃ p k gs, e = .returned (.agg #[.int .i64 m.i, .int .i64 m.o, .slice (some ⟨p, 0, none⟩) k k]) ∧ Hid (l.length = k) ∧ Hid (gs.length = k) ∧ Hid (Wb w.heap.size p k (Mc.prt m l).r gs w') ∧ Below w.heap.size w w'

set_option maxRecDepth 100000 in
set_option maxHeartbeats 4000000 in
theorem renum_any (m : Ma) (V : Mc.Val m) (l : List Int) (hl : Mc.Cls m l) (A : Option Addr) (c : Nat) (S : Option Addr) (n cS : Nat) (w : World) (hr : RdR w A m.r) (hS : Rd w S l) (hn : l.length = n) (hn1 : 1 ≤ n) :
    Calls Try.prog 44 #[.agg #[.int .i64 m.i, .int .i64 m.o, .slice A m.r.length c], .slice S n cS] w (RnP w m l) := by
  have hr64 := V.r1
  have hi16 := V.i1
  have hi1 := V.i0
  have HV := Lib.hid V
  have HC := Lib.hid hl
  have HN := Lib.hid hn
  obtain ⟨i, hi⟩ : ∃ i : Nat, m.i = i := ⟨m.i.toNat, by omega⟩
  have HI := Lib.hid hi
  have hn64 : n ≤ 64 := by
    have := Mc.nodup_le m.r.length l hl.nd hl.rg
    omega
  obtain ⟨T, hT⟩ : ∃ T, (Mc.prt m l).r = T := ⟨_, rfl⟩
  have HT := Lib.hid hT
  have hTl : Hid (T.length = n) := by show _ = _; rw [← hT, Mc.prt_len, hn]
  obtain ⟨P0, hP0⟩ : ∃ P0, RnP w m l = P0 := ⟨_, rfl⟩
  have HP0 := Lib.hid hP0
  rw [hP0]
  have hmm := @run_makeMap Try.prog
  have hmap0 := World.ownsMap_made (H := Unit) ((boxM w m.i m.o A m.r.length c).alloc (.cells #[.int .i64 0, .int .i64 0, .slice none 0 0] 27)) Try.prog 3 (plainElem (H := Unit) Try.prog 3)
  have hR0 : Hid (Rm w m A c 0 (.map []) ((((boxM w m.i m.o A m.r.length c).alloc (.cells #[.int .i64 0, .int .i64 0, .slice none 0 0] 27)).alloc (.map #[] 0)).alloc (.cells #[.map (some (w.heap.size + 1 + 1))] 101))) := by
    obtain ⟨es, cl, h1, h2⟩ := hmap0
    refine ⟨((((Below.refl _ _).alloc (Nat.le_refl _) _).alloc (by simp) _).alloc (by simp; omega) _).alloc (by simp; omega) _, (((BxM.new w _ _ _ _ _).mvB ((Below.refl _ _).alloc (Nat.le_refl _) _)).mvB ((Below.refl _ _).alloc (Nat.le_refl _) _)).mvB ((Below.refl _ _).alloc (Nat.le_refl _) _), ?_, ⟨es, cl, ?_, h2⟩, ?_⟩
    · exact ((BxM.newE (w := boxM w m.i m.o A m.r.length c) (by simp) 0 0 none 0 0).mvB ((Below.refl _ _).alloc (Nat.le_refl _) _)).mvB ((Below.refl _ _).alloc (Nat.le_refl _) _)
    · have e : ((boxM w m.i m.o A m.r.length c).alloc (.cells #[.int .i64 0, .int .i64 0, .slice none 0 0] 27)).heap.size = w.heap.size + 1 + 1 := by simp
      rw [e] at h1
      exact (Below.heap_alloc _ _ _ (by simp)).trans h1
    · exact (Box.new_ (by simp) (.map (some (w.heap.size + 1 + 1))) 101).1
  clear hmap0 V hl hn hi hT hP0
  go_enter Try.func44, Try.ntmps44
  go_wp2
  go_loopw [17] (fun v wr => ∃ (k : Nat) (D : DataW Unit), k ≤ n ∧ v = .int .i64 k ∧ Hid (MpR D (l.take k)) ∧ Hid (Rm w m A c k D wr)) (fun v _ => n - (intOf v).toNat)
  case atStart => exact ⟨0, _, Nat.zero_le _, rfl, MpR.start, hR0⟩
  case round =>
    obtain ⟨k, D, hk, rfl, hD, hR⟩ := hrel
    clear hR0
    by_cases hlt : k < n
    · obtain ⟨b, off, z, rfl, hb, hc, hz⟩ := (hS.below hR.out.bel).at_ (k := k) (by rw [HN.out]; exact hlt)
      have hzl : l[k]? = some z := by
        have := hz.out
        rw [List.getElem?_eq_getElem (by rw [HN.out]; exact hlt)] at this ⊢
        exact congrArg some this
      have hrg := HC.out.rg z (List.mem_of_getElem? hzl)
      have hkey := keyI (z := z) (by omega) (by omega)
      have hnew : ¬ z ∈ l.take k := fun hin => by
        obtain ⟨a, ha⟩ := List.mem_iff_getElem?.1 hin
        rw [List.getElem?_take] at ha
        split at ha
        · rename_i hak
          have hd := HC.out.nd
          have ha2 := (List.getElem?_eq_some_iff.1 ha)
          have hk2 := (List.getElem?_eq_some_iff.1 hzl)
          have := List.pairwise_iff_getElem.1 hd a k ha2.1 hk2.1 hak
          rw [ha2.2, hk2.2] at this
          exact this rfl
        · cases ha
      have hwm := wf_i64 (z := (k : Int)) (by omega) (by omega)
      have hbox := hR.out.mx.box
      have hmap := hR.out.mx.own
      have HZ := Lib.hid hzl
      have hD' := Lib.hid (hD.out.new (hmap.tidy lawI) hnew (n := k) (by rw [List.length_take, HN.out]; omega))
      have htk : l.take (k + 1) = l.take k ++ [z] := by
        rw [List.take_add_one, hzl]
        rfl
      rw [← htk] at hD'
      clear hzl hnew hz htk
      go_wp2_with (at_mapUpdate; refine wpList_mapUpdate_own _ rfl _ _ _ 101 rfl 3 3 lawI Try.underlying101 _ (w.heap.size + 1 + 1) k D rfl hmap (by unfold maxLen; omega) _ _ _ rfl rfl hkey _ [] (plainElem_int Try.underlying3 hwm) ?_; intro w1 hmap1 hg1)
      have hR1 := Lib.hid (hR.out.next hg1 hmap1)
      clear hmap1 hg1 hmap hR
      go_roundw
      case rel => exact ⟨k + 1, _, by omega, by go_num, hD', hR1⟩
      case measure => simp [intOf]; omega
    · obtain rfl : k = n := by omega
      have hDl : Hid (MpR D l) := by
        have := hD.out
        rw [List.take_of_length_le (by rw [HN.out]; exact Nat.le_refl _)] at this
        exact this
      have hzr : w.heap.size + 4 ≤ wr.heap.size := by
        obtain ⟨x, hx, _⟩ := cell_block hR.out.mx.box
        have := heap_lt hx
        omega
      go_wp2_with (at_make; go_loud (refine wpList_make_rowsZ _ rfl _ _ rfl k (rnR T i 0) rfl rfl (by omega) (w.heap.size + 4) hzr ?_))
      intro w3 hW3 hb3
      obtain ⟨p, hp⟩ : ∃ p, wr.heap.size = p := ⟨_, rfl⟩
      rw [hp] at hW3 hzr ⊢
      have hRn0 : Hid (Rn w m A c p l D [] (rnR T i 0) w3) :=
        ⟨below_next hR.out.bel hb3, hR.out.bm.mvB hb3, hR.out.bo.mvB hb3, by rw [HN.out]; exact hR.out.mx.below hb3, by rw [HN.out]; exact hW3⟩
      clear hD hR hW3 hb3 hp hmm
      go_wp2
      go_loopw [32] (fun v wr => ∃ (a : Nat) (gs : List Nat), a ≤ k ∧ v = .int .i64 a ∧ Hid (gs.length = a) ∧ Hid (Rn w m A c p l D gs (rnR T i a) wr)) (fun v _ => k - (intOf v).toNat)
      case atStart => exact ⟨0, [], Nat.zero_le _, rfl, rfl, hRn0⟩
      case round =>
        obtain ⟨a, gs, ha, rfl, hgs, hR⟩ := hrel
        clear hRn0
        by_cases hak : a < k
        · obtain ⟨b, off, z, rfl, hb, hc, hz⟩ := (hS.below hR.out.bel).at_ (k := a) (by rw [HN.out]; exact hak)
          have hzl : l[a]? = some z := by
            have := hz.out
            rw [List.getElem?_eq_getElem (by rw [HN.out]; exact hak)] at this ⊢
            exact congrArg some this
          have hrg := HC.out.rg z (List.mem_of_getElem? hzl)
          obtain ⟨t, rfl⟩ := Int.eq_ofNat_of_zero_le hrg.1
          have htl : t < m.r.length := by omega
          obtain ⟨q0, q1, q2⟩ := hR.out.bm.cells
          obtain ⟨v0, x0, x1⟩ := hR.out.wb.cell (k := a) (by rw [hgs.out, HN.out]; omega) (by rw [hgs.out, rnR_len (by rw [hTl.out]; omega), hTl.out]; omega)
          have hpl : p < wr.heap.size := heap_lt hR.out.wb.blk
          have hrowT : Hid ((rnR T i a)[gs.length]? = some (List.replicate i (0, 0))) := by
            show _ = _
            rw [hgs.out]
            exact rnR_at (by rw [hTl.out]; exact hak)
          have hR2 := hR.out.row (by rw [hgs.out, HN.out]; exact hak) (by rw [HN.out, rnR_len (by rw [hTl.out]; omega), hTl.out]) hrowT.out
          rw [hgs.out, List.length_replicate] at hR2
          have hbA : Below wr.heap.size wr (wr.alloc (.cells (eC (List.replicate i (0, 0))).toArray 49)) := (Below.refl _ _).alloc (Nat.le_refl _) _
          obtain ⟨v1, y0, y1⟩ := (hR.out.wb.below hbA).cell (k := a) (by rw [hgs.out, HN.out]; omega) (by rw [hgs.out, rnR_len (by rw [hTl.out]; omega), hTl.out]; omega)
          rw [World.setCell_alloc_past _ _ _ _ (by show p < wr.heap.size; exact hpl)] at hR2
          obtain ⟨z0, z1, z2⟩ := hR2.bm.cells
          obtain ⟨b2, off2, B, dd, ni, row, hAe, hb2, hcw, _, _, _, hpw, hln, hqr⟩ := hr.at_ htl
          subst hAe
          have hc2 := (hR2.bel.cell (p := ⟨b2, off2 + t, none⟩) hb2).trans hcw
          have hni : (ni : Int) = m.i := by rw [← hln.out]; exact HV.out.len row (List.mem_of_getElem? hqr.out)
          have hnii : ni = i := by have := HI.out; omega
          have hii : i ≤ 16 := by have := HI.out; omega
          have hmi : Hid (m.i = (i : Int)) := HI.out
          have HR2 := Lib.hid hR2
          subst hnii
          clear hz hcw hbA x0 x1 hR2 hni
          go_wp2_with (at_make; go_loud (refine wpList_make_edgesZ _ rfl _ _ rfl _ ni rfl rfl hmi.out (by omega) ?_))
          obtain ⟨g, hg⟩ : ∃ g, wr.heap.size = g := ⟨_, rfl⟩
          rw [hg] at HR2
          have hTa : Hid (T[a]? = some (row.map fun x => (Mc.ix l x.1, x.2))) := by
            show _ = _
            rw [← HT.out]
            show (List.map _ l)[a]? = _
            rw [List.getElem?_map, hzl]
            show some (List.map _ ((m.r[t]?).getD [])) = _
            rw [hqr.out]
            rfl
          have hcurL : Hid (∀ j, j ≤ ni → (rnC (row.map fun x => (Mc.ix l x.1, x.2)) ni j).length = ni) := fun j hj => rnC_len (by rw [List.length_map]; exact hln.out) hj
          have hR2' : Hid (Rn w m (some ⟨b2, off2, none⟩) c p l D (gs ++ [g]) ((rnR T ni a).set a (rnC (row.map fun x => (Mc.ix l x.1, x.2)) ni 0)) ((wr.setCell ⟨p, a, none⟩ (.slice (some ⟨g, 0, none⟩) ni ni)).alloc (.cells (eC (List.replicate ni (0, 0))).toArray 49))) := by
            show Rn _ _ _ _ _ _ _ _ _ _
            rw [rnC_zero, rnR_self (by rw [hTl.out]; exact hak)]
            exact HR2.out
          have hzl2 := Lib.hid hzl
          clear z0 z1 z2 y0 y1 HR2 hR hc2 hc hzl
          go_wp2
          try rw [hg]
          go_loopw [49] (fun v wr => ∃ j : Nat, j ≤ ni ∧ v = .int .i64 j ∧ Hid (Rn w m (some ⟨b2, off2, none⟩) c p l D (gs ++ [g]) ((rnR T ni a).set a (rnC (row.map fun x => (Mc.ix l x.1, x.2)) ni j)) wr)) (fun v _ => ni - (intOf v).toNat)
          case atStart => exact ⟨0, Nat.zero_le _, rfl, hR2'⟩
          case round =>
            obtain ⟨j, hj, rfl, hR⟩ := hrel
            clear hR2' hg
            by_cases hjn : j < ni
            · obtain ⟨b3, off3, ex, ey, rfl, hb3, hx0, hy0, hqe⟩ := hpw.at_ (k := j) (by rw [hln.out]; exact hjn)
              have hx := (hR.out.bel.cell (p := ⟨b3, off3 + j * 2, none⟩) hb3).trans hx0
              have hy := (hR.out.bel.cell (p := ⟨b3, off3 + j * 2 + 1, none⟩) hb3).trans hy0
              have hji : (j : Int) < m.i := by rw [hmi.out]; omega
              obtain ⟨cur, hcur⟩ : ∃ cur, rnC (row.map fun x => (Mc.ix l x.1, x.2)) ni j = cur := ⟨_, rfl⟩
              have hcl : Hid (cur.length = ni) := by show _ = _; rw [← hcur]; exact hcurL.out j hj
              rw [hcur] at hR
              have hset : Hid (cur.set j (Mc.ix l ex, ey) = rnC (row.map fun x => (Mc.ix l x.1, x.2)) ni (j + 1)) := by
                show _ = _
                rw [← hcur]
                exact rnC_set (by rw [List.length_map]; exact hln.out) (by rw [List.getElem?_map, hqe.out]; rfl)
              have hga : (gs ++ [g])[a]? = some g := by
                rw [List.getElem?_append_right (by rw [hgs.out]; exact Nat.le_refl _), hgs.out, Nat.sub_self]
                rfl
              have hra : ((rnR T ni a).set a cur)[a]? = some cur := by
                rw [List.getElem?_set_self (by rw [rnR_len (by rw [hTl.out]; omega), hTl.out]; exact hak)]
              have hbE : Below wr.heap.size wr (wr.alloc (.cells #[.int .i64 ex, .int .i64 ey] 49)) := (Below.refl _ _).alloc (Nat.le_refl _) _
              have hRE := hR.out.below hbE
              have x0 := hRE.wb.at_ hga hra (by rw [List.length_set, rnR_len (by rw [hTl.out]; omega), hTl.out, List.length_append, hgs.out]; simp; omega)
              rw [hcl.out] at x0
              obtain ⟨e0, e1, _, _⟩ := (BxE.new wr ex ey).cells
              have hnx : Mc.nx m t j = (ex, ey) := Mc.nx_at hqr.out hqe.out
              have hok := HV.out.ok row (List.mem_of_getElem? hqr.out) _ (List.mem_of_getElem? hqe.out)
              simp only at hok
              have CA : ∀ wz, Below (wr.alloc (.cells #[.int .i64 ex, .int .i64 ey] 49)).heap.size (wr.alloc (.cells #[.int .i64 ex, .int .i64 ey] 49)) wz → Calls Try.prog 56 #[.agg #[.int .i64 ex, .int .i64 ey], .pointer (some ⟨w.heap.size + 1 + 1 + 1, 0, none⟩)] wz fun e w' => e = .returned (.agg #[.int .i64 (Mc.ix l ex), .int .i64 ey]) ∧ Below wz.heap.size wz w' := fun wz hwz => by
                rcases hok with ⟨h1, h2⟩ | ⟨h1, h2, _⟩
                · subst h1
                  rw [Mc.ix_none (fun hin => by have := (HC.out.rg _ hin).1; omega)]
                  exact renum1_none _ _ _
                · have hin : ex ∈ l := by
                    have := HC.out.cl t (List.mem_of_getElem? hzl2.out) j (by omega) hji (by rw [hnx]; exact h1)
                    rw [hnx] at this
                    exact this
                  have hge := Mc.ix_get hin
                  have hix : ((Mc.ix l ex).toNat : Int) = Mc.ix l ex := by
                    rw [Mc.ix_at HC.out.nd hge]
                    simp
                  have := renum1_some _ _ _ D l ex (Mc.ix l ex).toNat ey wz (hRE.mx.below hwz) hDl.out hge h1 (by omega)
                  rw [hix] at this
                  exact this
              have HCA := Lib.hid (CA _ (Below.refl _ _).drew)
              have hgp : g ≠ p := (hR.out.wb.own g (List.mem_of_getElem? hga)).2.1
              have hgl : g < wr.heap.size := (hR.out.wb.own g (List.mem_of_getElem? hga)).2.2
              have hpl2 : p < wr.heap.size := heap_lt hR.out.wb.blk
              obtain ⟨ecs, hecs⟩ : ∃ v, cur[j]? = some v := ⟨_, List.getElem?_eq_getElem (by rw [hcl.out]; exact hjn)⟩
              have hgrow := hRE.wb.row a g cur hga hra
              have s0 : (wr.alloc (.cells #[.int .i64 ex, .int .i64 ey] 49)).cell? ⟨g, j * 2, none⟩ = some (.int .i64 ecs.1) := by
                rw [cell_of_row _ g _ _ _ (0, 0) hgrow]
                simpa using (eC_at hecs).1
              have s1 : (wr.alloc (.cells #[.int .i64 ex, .int .i64 ey] 49)).cell? ⟨g, j * 2 + 1, none⟩ = some (.int .i64 ecs.2) := by
                rw [cell_of_row _ g _ _ _ (0, 0) hgrow]
                simpa using (eC_at hecs).2
              have sf : ∀ o, (wr.alloc (.cells #[.int .i64 ex, .int .i64 ey] 49)).frozen? ⟨g, o, none⟩ = false := fun o => by simp only [World.frozen?, hgrow]; simp
              have HRE := Lib.hid hRE
              have hra2 := Lib.hid hra
              have hga2 := Lib.hid hga
              clear hx0 hy0 hok hnx CA hgrow hecs hcur hRE hR hra hga
              go_wp2_with fail
              go_region_held3 (fun w' => w'.cell? ⟨p, a, none⟩ = some (.slice (some ⟨g, 0, none⟩) ni ni) ∧ w'.cell? ⟨wr.heap.size, 0, none⟩ = some (.int .i64 ex) ∧ w'.cell? ⟨wr.heap.size, 1, none⟩ = some (.int .i64 ey)) (first | exact ⟨m0, m1, m2⟩ | exact ⟨k0, k1, k2⟩ | exact ⟨x0, e0, e1⟩ | go_keep)
                (first
                  | (go_at_call 56
                     (with_reducible refine (HCA.out).mono ?_)
                     rintro e w9 ⟨rfl, hb9⟩
                     have k0 := (hb9.cell (p := ⟨p, a, none⟩) (by show p < _; simp; omega)).trans x0
                     have k1 := (hb9.cell (p := ⟨wr.heap.size, 0, none⟩) (by show wr.heap.size < _; simp)).trans e0
                     have k2 := (hb9.cell (p := ⟨wr.heap.size, 1, none⟩) (by show wr.heap.size < _; simp)).trans e1
                     have k3 := (hb9.cell (p := ⟨g, j * 2, none⟩) (by show g < _; simp; omega)).trans s0
                     have k4 := (hb9.cell (p := ⟨g, j * 2 + 1, none⟩) (by show g < _; simp; omega)).trans s1
                     have k5 := (hb9.frozen (p := ⟨g, j * 2, none⟩) (by show g < _; simp; omega)).trans (sf _)
                     have k6 := (hb9.frozen (p := ⟨g, j * 2 + 1, none⟩) (by show g < _; simp; omega)).trans (sf _)
                     have mm9 := fun (b o : Nat) (h : b ≠ g) => World.cell?_of_block (w := w9) (w' := (w9.setCell ⟨g, j * 2, none⟩ (.int .i64 (Mc.ix l ex))).setCell ⟨g, j * 2 + 1, none⟩ (.int .i64 ey)) (a := ⟨b, o, none⟩) ((Below.heap_setCell _ ⟨g, j * 2 + 1, none⟩ _ b h).trans (Below.heap_setCell _ ⟨g, j * 2, none⟩ _ b h))
                     have m0 := (mm9 p a hgp.symm).trans k0
                     have m1 := (mm9 wr.heap.size 0 (by omega)).trans k1
                     have m2 := (mm9 wr.heap.size 1 (by omega)).trans k2
                     dsimp only)
                  | fail)
              have hR9 := HRE.out.below (below_next (Below.refl _ _).drew hb9)
              have hR10 := hR9.put (i := j) (x := (Mc.ix l ex, ey)) hga2.out hra2.out (by rw [hcl.out]; exact hjn)
              rw [List.set_set, hset.out] at hR10
              have HR10 := Lib.hid hR10
              clear hR9 hR10 k0 k1 k2 k3 k4 k5 k6 m0 m1 m2 mm9 hb9
              go_wp2
              go_roundw
              case rel => exact ⟨j + 1, by omega, by go_num, HR10.out⟩
              case measure => simp [intOf]; omega
            · have hjn2 : j = ni := by omega
              have hji : ¬ (j : Int) < m.i := by rw [hmi.out]; omega
              have hR' : Hid (Rn w m (some ⟨b2, off2, none⟩) c p l D (gs ++ [g]) (rnR T ni (a + 1)) wr) := by
                have h1 := hR.out
                rw [hjn2, rnC_all (by rw [List.length_map]; exact hln.out), rnR_set hTa.out] at h1
                exact h1
              have hgs' : Hid ((gs ++ [g]).length = a + 1) := by
                show _ = _
                rw [List.length_append, hgs.out]
                rfl
              clear hR hgs
              go_wp2
              go_roundw
              case rel => exact ⟨a + 1, gs ++ [g], by omega, by go_num, hgs', hR'⟩
              case measure => simp [intOf]; omega
        · obtain rfl : a = k := by omega
          obtain ⟨q0, q1, q2⟩ := hR.out.bm.cells
          obtain ⟨e0, e1, e2⟩ := hR.out.bo.cells
          obtain ⟨f0, f1, f2⟩ := hR.out.bo.frozen
          have hfin : Hid (Wb w.heap.size p a T gs wr) := by
            have h1 := hR.out.wb
            have e : rnR T i a = T := by rw [← hTl.out]; exact rnR_all
            rw [e, HN.out] at h1
            exact ⟨h1.blk, h1.row, fun g hg => ⟨by have := (h1.own g hg).1; omega, (h1.own g hg).2⟩, h1.inj, by have := h1.p0; omega⟩
          have hbel := Lib.hid hR.out.bel
          have hg5 : Hid (gs.length = a) := hgs
          obtain ⟨r0, r1, r2⟩ := set3_reads hR.out.bo (.int .i64 m.i) (.int .i64 m.o) (.slice (some ⟨p, 0, none⟩) a a)
          have hfin2 : Hid (RnP w m l (.returned (.agg #[.int .i64 m.i, .int .i64 m.o, .slice (some ⟨p, 0, none⟩) a a])) (((wr.setCell ⟨w.heap.size + 1, 0, none⟩ (.int .i64 m.i)).setCell ⟨w.heap.size + 1, 1, none⟩ (.int .i64 m.o)).setCell ⟨w.heap.size + 1, 2, none⟩ (.slice (some ⟨p, 0, none⟩) a a))) := by
            refine ⟨p, a, gs, rfl, HN.out, hg5.out, ?_, below_set3' hbel.out (by omega) _ _ _⟩
            rw [HT.out]
            exact ((hfin.out.far (by have := hR.out.wb.p0; omega) (fun g hg => by have := (hR.out.wb.own g hg).1; omega) _).far (by have := hR.out.wb.p0; omega) (fun g hg => by have := (hR.out.wb.own g hg).1; omega) _).far (by have := hR.out.wb.p0; omega) (fun g hg => by have := (hR.out.wb.own g hg).1; omega) _
          clear hR hgs
          go_wp2
          refine bodyPost_ret (v := .agg #[.int .i64 m.i, .int .i64 m.o, .slice (some ⟨p, 0, none⟩) a a]) (by simp [results, Try.f44, go_sem, r0, r1, r2]) rfl ?_
          rw [← HP0.out]
          exact hfin2.out
end Go.Proofs.Ytldpfbmkmehadaa
