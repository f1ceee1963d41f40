/-
  Several texts in one: Q1, Q2. No statement is proved here.
-/
import Derived.Test.YtnodnfailjmpeaaQnH
import Derived.Test.YtnodnfailjmpeaaSkC
import Derived.RegionTactic
import Derived.Deep.RegionHeld3
namespace Go.Proofs.Ytnodnfailjmpeaa
open Go.RowKit Go.Maps
open Mc (Ed Ma)

set_option maxRecDepth 100000 in
set_option maxHeartbeats 1000000 in
theorem image_any (x y : Int) (S : Option Addr) (n c : Nat) (p : List Int) (w : World) (hS : Rd w S p) (hn : p.length = n) (hx : x = -1 ∨ (0 ≤ x ∧ x < n)) :
    Calls Try.prog 75 #[.agg #[.int .i64 x, .int .i64 y], .slice S n c] w fun e w' => e = .returned (.agg #[.int .i64 (Mc.tgt p x), .int .i64 y]) ∧ Below w.heap.size w w' := by
  have hbA : Below w.heap.size w ((w.alloc (.cells #[.int .i64 x, .int .i64 y] 26)).alloc (.cells #[.int .i64 0, .int .i64 0] 26)) := ((Below.refl _ _).alloc (Nat.le_refl _) _).alloc (by simp) _
  by_cases h1 : x = -1
  · subst h1
    rw [Mc.tgt_none]
    clear hS hx
    go_enter Try.func75, Try.ntmps75
    go_wp2
    go_returns
    exact ⟨rfl, ((Below.refl _ _).alloc (Nat.le_refl _) _).alloc (by simp) _⟩
  · obtain ⟨t, rfl⟩ := Int.eq_ofNat_of_zero_le (show 0 ≤ x by omega)
    have htn : t < n := by omega
    have hti : (t : Int) < n := by omega
    have hne : ((t : Int) == -1) = false := by rw [beq_eq_false_iff_ne]; omega
    obtain ⟨b, off, rfl⟩ := hS.opn (by omega)
    obtain ⟨z, hb, hc, hz⟩ := (hS.below hbA).cl (k := t) (by omega)
    rw [Mc.tgt_nat, hz.out]
    have hE : BxE ((w.alloc (.cells #[.int .i64 t, .int .i64 y] 26)).alloc (.cells #[.int .i64 0, .int .i64 0] 26)) w.heap.size t y := (((Below.refl _ _).alloc (Nat.le_refl _) _).block _ (by simp)).trans (BxE.new w t y)
    have hF := BxE.new (w.alloc (.cells #[.int .i64 t, .int .i64 y] 26)) 0 0
    obtain ⟨e0, e1, _, _⟩ := hE.cells
    obtain ⟨f0, f1, f2, f3⟩ := hF.cells
    clear hE hF
    clear hS hx h1 hz hn
    go_enter Try.func75, Try.ntmps75
    go_wp2_with fail
    go_region
    all_goals go_wp2
    all_goals go_returns
    all_goals exact ⟨rfl, (((Below.refl _ _).alloc (Nat.le_refl _) _).alloc (by simp) _).drew⟩
end Go.Proofs.Ytnodnfailjmpeaa

namespace Go.Proofs.Ytnodnfailjmpeaa
open Go.RowKit Go.Maps
open Mc (Ed Ma)

/-- The memory of merged while it counts. -/
structure Mg (w : World) (m : Ma) (A : Option Addr) (c n : Nat) (p : List Int) (k : Nat) (D : DataW Unit) (cur : List Int) (V : Value) (W : World) : Prop where
  bel : Below w.heap.size w W
  bm : BxM W w.heap.size m.i m.o A n c
  bo : BxM W (w.heap.size + 1) 0 0 none 0 0
  mp : W.ownsMap Try.prog 3 (plainElem (H := Unit) Try.prog 3) (w.heap.size + 1 + 1) k D
  nb : W.ownsRow (w.heap.size + 1 + 1 + 1) 3 1 (.slice (some ⟨w.heap.size + 1 + 1 + 1, 0, none⟩) n n) n (ints cur)
  fs : OwI W (w.heap.size + 4) V (Mc.fpl p k)
  sz : w.heap.size + 4 ≤ W.heap.size
section
variable {w W W' : World} {m : Ma} {A : Option Addr} {c n k k' : Nat} {p cur : List Int} {D D' : DataW Unit} {V V' : Value}
theorem Mg.set (h : Mg w m A c n p k D cur V W) (j : Nat) (z : Int) : Mg w m A c n p k D (cur.set j z) V (W.setCell ⟨w.heap.size + 1 + 1 + 1, j, none⟩ (.int .i64 z)) :=
  ⟨h.bel.setCell (p := ⟨w.heap.size + 1 + 1 + 1, j, none⟩) (by show w.heap.size ≤ w.heap.size + 1 + 1 + 1; omega) _, h.bm.farS (by omega) _, h.bo.farS (by omega) _, h.mp.setCell (a := ⟨w.heap.size + 1 + 1 + 1, j, none⟩) (by show w.heap.size + 1 + 1 ≠ w.heap.size + 1 + 1 + 1; omega) _, own_set h.nb j z, OwI.away h.fs _ (by omega), by have := h.sz; simpa [World.setCell] using this⟩
theorem Mg.mono (h : Mg w m A c n p k D cur V W) (hk : k ≤ k') (hf : Mc.fpl p k' = Mc.fpl p k) : Mg w m A c n p k' D cur V W :=
  ⟨h.bel, h.bm, h.bo, h.mp.mono hk, h.nb, by rw [hf]; exact h.fs, h.sz⟩
theorem Mg.upd (h : Mg w m A c n p k D cur V W) (hg : W.grownBy W' (some (w.heap.size + 1 + 1))) :
    Below w.heap.size w W' ∧ BxM W' w.heap.size m.i m.o A n c ∧ BxM W' (w.heap.size + 1) 0 0 none 0 0 ∧ W'.ownsRow (w.heap.size + 1 + 1 + 1) 3 1 (.slice (some ⟨w.heap.size + 1 + 1 + 1, 0, none⟩) n n) n (ints cur) ∧ OwI W' (w.heap.size + 4) V (Mc.fpl p k) ∧ w.heap.size + 4 ≤ W'.heap.size := by
  refine ⟨h.bel.grown hg h.bel.size (fun j e => by have := Option.some.inj e; omega), (hg.block w.heap.size (heap_lt h.bm) (fun e => by have := Option.some.inj e; omega)).trans h.bm, (hg.block (w.heap.size + 1) (heap_lt h.bo) (fun e => by have := Option.some.inj e; omega)).trans h.bo, h.nb.kept hg (.inr (by simp [Value.ownBlock])), ?_, Nat.le_trans h.sz hg.size⟩
  refine h.fs.kept hg ?_
  rcases hv : V.ownBlock with _ | j
  · exact .inl rfl
  · refine .inr fun e => ?_
    have := (h.fs.lt j hv).1
    injection e with e
    omega
end
theorem own_blk {w w' : World} {B g n c : Nat} {xs : List Value} (h : w.ownsRow B 3 1 (.slice (some ⟨g, 0, none⟩) n c) n xs) (hb : w'.heap[g]? = w.heap[g]?) : w'.ownsRow B 3 1 (.slice (some ⟨g, 0, none⟩) n c) n xs := by
  refine ⟨h.1, ?_⟩
  rcases h.2 with hn | ⟨g', cap, cu, e, h1, h2, rest⟩
  · exact .inl hn
  · refine .inr ⟨g', cap, cu, e, h1, ?_, rest⟩
    injection e with e _ _
    injection e with e
    injection e with e _
    rw [← e, hb, e]
    exact h2
theorem map_blk {w w' : World} {b n : Nat} {D : DataW Unit} (h : w.ownsMap Try.prog 3 (plainElem (H := Unit) Try.prog 3) b n D) (hb : w'.heap[b]? = w.heap[b]?) : w'.ownsMap Try.prog 3 (plainElem (H := Unit) Try.prog 3) b n D := by
  obtain ⟨es, cl, h1, h2⟩ := h
  exact ⟨es, cl, hb.trans h1, h2⟩

/-- The memory of merged while rows are filled. -/
structure Mh (W0 : World) (p n : Nat) (gs : List Nat) (rs : List (List Ed)) (W : World) : Prop where
  bel : Below W0.heap.size W0 W
  wb : Wb W0.heap.size p n rs gs W
section
variable {W0 W W' : World} {p n : Nat} {gs : List Nat} {rs : List (List Ed)}
theorem Mh.below (h : Mh W0 p n gs rs W) (k : Below W.heap.size W W') : Mh W0 p n gs rs W' := ⟨below_next h.bel k, h.wb.below k⟩
theorem Mh.row {row : List Ed} (h : Mh W0 p n gs rs W) (hl : gs.length < n) (hn : n = rs.length) (hr : rs[gs.length]? = some row) :
    Mh W0 p n (gs ++ [W.heap.size]) rs ((W.alloc (.cells (eC row).toArray 26)).setCell ⟨p, gs.length, none⟩ (.slice (some ⟨W.heap.size, 0, none⟩) row.length row.length)) :=
  ⟨(below_next h.bel ((Below.refl _ _).alloc (Nat.le_refl _) _)).setCell (p := ⟨p, gs.length, none⟩) h.wb.p0 _, h.wb.pushZ hl hn hr h.bel.size⟩
theorem Mh.put {s i g : Nat} {row : List Ed} {x : Ed} (h : Mh W0 p n gs rs W) (h1 : gs[s]? = some g) (h2 : rs[s]? = some row) (hi : i < row.length) :
    Mh W0 p n gs (rs.set s (row.set i x)) ((W.setCell ⟨g, i * 2, none⟩ (.int .i64 x.1)).setCell ⟨g, i * 2 + 1, none⟩ (.int .i64 x.2)) := by
  obtain ⟨o1, o2, o3⟩ := h.wb.own g (List.mem_of_getElem? h1)
  exact ⟨(h.bel.setCell (p := ⟨g, i * 2, none⟩) o1 _).setCell (p := ⟨g, i * 2 + 1, none⟩) o1 _, h.wb.put h1 h2 hi⟩
end
theorem Rd.farB {w : World} {g h k : Nat} {u : Value} {l : List Int} (hr : Rd w (some ⟨g, 0, none⟩) l) (hne : g ≠ h) : Rd (w.setCell ⟨h, k, none⟩ u) (some ⟨g, 0, none⟩) l := fun hp => by
  obtain ⟨b, off, e, hb, hc⟩ := hr hp
  have e2 : b = g := by injection e with e; injection e with e _; exact e.symm
  refine ⟨b, off, e, by simpa [World.setCell] using hb, fun j hj => ?_⟩
  exact (World.cell?_of_block (w := w) (a := ⟨b, off + j, none⟩) (Below.heap_setCell w ⟨h, k, none⟩ u b (by show b ≠ h; omega))).trans (hc j hj)
/-- What merged hands back. -/
def MgP (w : World) (m : Ma) (p : List Int) (n : Nat) (e : Ending) (w' : World) : Prop := ∃ P k gs g, e = .returned (.tuple #[.agg #[.int .i64 m.i, .int .i64 m.o, .slice (some ⟨P, 0, none⟩) k k], .slice (some ⟨g, 0, none⟩) n n]) ∧ Hid ((Mc.mrg m p).r.length = k) ∧ Hid (gs.length = k) ∧ Hid (Wb w.heap.size P k (Mc.mrg m p).r gs w') ∧ Hid (Rd w' (some ⟨g, 0, none⟩) p) ∧ Hid (w.heap.size ≤ g) ∧ Below w.heap.size w w'

set_option maxRecDepth 100000 in
set_option maxHeartbeats 4000000 in
theorem merged_any (m : Ma) (V : Mc.Val m) (p : List Int) (hv : M.Vd p) (A : Option Addr) (c : Nat) (S : Option Addr) (n d : Nat) (w : World) (hr : RdR w A m.r) (hS : Rd w S p) (hn : p.length = n) (hmn : m.r.length = n) :
    Calls Try.prog 72 #[.agg #[.int .i64 m.i, .int .i64 m.o, .slice A n c], .slice S n d] w (MgP w m p n) := by
  have hn64 : n ≤ 64 := by rw [← hmn]; exact V.r1
  have HV := Lib.hid V
  have HP := Lib.hid hv
  have HN := Lib.hid hn
  have HM := Lib.hid hmn
  obtain ⟨i, hi⟩ : ∃ i : Nat, m.i = i := ⟨m.i.toNat, by have := V.i0; omega⟩
  have hi16 : i ≤ 16 := by have := V.i1; omega
  have HI := Lib.hid hi
  obtain ⟨P0, hP0⟩ : ∃ P0, MgP w m p n = P0 := ⟨_, rfl⟩
  have HP0 := Lib.hid hP0
  rw [hP0]
  have hpI : Hid (∀ z ∈ p, -9223372036854775808 ≤ z ∧ z ≤ 9223372036854775807) := fun z hz => by
    have h1 := hv.bound hz
    have h2 := M.cnt_le p
    omega
  have hmm := @run_makeMap Try.prog
  clear V hv hn hmn hi hP0
  have hz0 := Below.refl (boxM w m.i m.o A n c).heap.size (boxM w m.i m.o A n c)
  have hmap0 := World.ownsMap_made (H := Unit) ((boxM w m.i m.o A n c).alloc (.cells #[.int .i64 0, .int .i64 0, .slice none 0 0] 24)) Try.prog 3 (plainElem (H := Unit) Try.prog 3)
  go_enter Try.func72, Try.ntmps72
  go_wp2_with (at_make; refine wpList_make_ints7 _ rfl _ _ rfl _ n rfl rfl rfl (by omega) ?_)
  intro w1 hB1 hb1
  obtain ⟨cur0, hcur0⟩ : ∃ cur0, List.replicate n (0 : Int) = cur0 := ⟨_, rfl⟩
  rw [hcur0] at hB1
  have hM0 : Hid (Mg w m A c n p 0 (.map []) cur0 (.slice none 0 0) w1) := by
    obtain ⟨es, cl, h1, h2⟩ := hmap0
    have e : ((boxM w m.i m.o A n c).alloc (.cells #[.int .i64 0, .int .i64 0, .slice none 0 0] 24)).heap.size = w.heap.size + 1 + 1 := by simp
    rw [e] at h1
    have hx := hB1.out.own (B := w.heap.size + 1 + 1 + 1) (n := n) (by simp) (by rw [← hcur0]; simp) (by unfold maxLen; omega)
    have hA1 : Below w.heap.size w (((boxM w m.i m.o A n c).alloc (.cells #[.int .i64 0, .int .i64 0, .slice none 0 0] 24)).alloc (.map #[] 0)) := (((Below.refl _ _).alloc (Nat.le_refl _) _).alloc (by simp) _).alloc (by simp; omega) _
    have hA2 : BxM (((boxM w m.i m.o A n c).alloc (.cells #[.int .i64 0, .int .i64 0, .slice none 0 0] 24)).alloc (.map #[] 0)) w.heap.size m.i m.o A n c := ((BxM.new w _ _ _ _ _).mvB ((Below.refl _ _).alloc (Nat.le_refl _) _)).mvB ((Below.refl _ _).alloc (Nat.le_refl _) _)
    have hA3 : BxM (((boxM w m.i m.o A n c).alloc (.cells #[.int .i64 0, .int .i64 0, .slice none 0 0] 24)).alloc (.map #[] 0)) (w.heap.size + 1) 0 0 none 0 0 := (BxM.newE (w := boxM w m.i m.o A n c) (by simp) 0 0 none 0 0).mvB ((Below.refl _ _).alloc (Nat.le_refl _) _)
    have hA4 : (((boxM w m.i m.o A n c).alloc (.cells #[.int .i64 0, .int .i64 0, .slice none 0 0] 24)).alloc (.map #[] 0)).heap.size = w.heap.size + 1 + 1 + 1 := by simp
    have hlt := hB1.out.lt
    try rw [hA4] at hb1
    try rw [hA4] at hx
    try rw [hA4] at hlt
    exact ⟨hA1.trans (hb1.mono (by omega)), (hb1.block _ (by omega)).trans hA2, (hb1.block _ (by omega)).trans hA3, ⟨es, cl, (hb1.block _ (by omega)).trans h1, h2⟩, hx, OwI.nil_ _ _, by omega⟩
  have hC0 : Hid (OfS p 0 cur0) := by have := OfS.start p; rw [HN.out, hcur0] at this; exact this
  clear hB1 hb1 hmap0 hcur0 hz0
  go_wp2_with fail
  go_loopw [8, 24] (fun x q wr => ∃ (k : Nat) (D : DataW Unit) (cur : List Int) (X : Value), k ≤ n ∧ q = .int .i64 k ∧ X = x ∧ Hid (MpI D (p.take k)) ∧ Hid (OfS p k cur) ∧ Hid (Mg w m A c n p k D cur X wr)) (fun _ q _ => n - (intOf q).toNat)
  case atStart => exact ⟨0, _, cur0, _, Nat.zero_le _, rfl, rfl, MpI.start, hC0, hM0⟩
  case round =>
    clear hM0 hC0
    obtain ⟨k, D, cur, X, hk, rfl, rfl, hD, hC, hG⟩ := hrel
    by_cases hlt : k < n
    · have hlt' : (k : Int) < n := by omega
      obtain ⟨b, off, rfl⟩ := hS.opn (by rw [HN.out]; omega)
      obtain ⟨z, hb, hc, hz⟩ := (hS.below hG.out.bel).cl (k := k) (by rw [HN.out]; exact hlt)
      have hzp : z ∈ p := by rw [← hz.out]; exact M.gz_mem (by rw [HN.out]; exact hlt)
      obtain ⟨hz1, hz2⟩ := hpI.out z hzp
      have hkey := keyI hz1 hz2
      have hmap := hG.out.mp
      have htk : p.take (k + 1) = p.take k ++ [z] := by rw [M.take_gz (by rw [HN.out]; exact hlt), hz.out]
      have HTK := Lib.hid htk
      have HZ := hz
      by_cases hin : z ∈ p.take k
      · have hsn : Maps.has D (.int .i64 z) = true := by rw [hD.out.has]; simpa using hin
        have hD' : Hid (MpI D (p.take (k + 1))) := by rw [Hid, HTK.out]; exact hD.out.old hin
        have hC' : Hid (OfS p (k + 1) (cur.set k (M.nu (p.take k) z : Int))) := hC.out.step (by rw [HN.out]; exact hlt) (by rw [HTK.out, M.ofL_snoc, M.nu_old hin])
        have hG' : Hid (Mg w m A c n p (k + 1) D (cur.set k (M.nu (p.take k) z : Int)) X (wr.setCell ⟨w.heap.size + 1 + 1 + 1, k, none⟩ (.int .i64 (M.nu (p.take k) z : Int)))) := (hG.out.mono (Nat.le_succ k) (Mc.fpl_old (by rw [HN.out]; exact hlt) (by rw [HZ.out]; exact hin))).set k _
        have hgot := fun c hat => hD.out.got (c := c) hin hat
        have HG := Lib.hid hgot
        obtain ⟨x0, hcx, hfz, _⟩ := own_cl hG.out.nb hlt
        clear hgot hG hC hD htk hz hin
        go_wp2_with (first
          | (at_lookup; refine wpList_lookup_own_ok_int _ rfl _ _ 142 rfl 3 3 .i64 lawI Try.underlying142 Try.underlying3 (zeroI _) (w.heap.size + 1 + 1) k D rfl hmap _ _ rfl hkey ?_; intro c2 hat hwc; obtain rfl := HG.out _ hat; clear hat hwc; rw [hsn])
          | fail)
        go_roundw
        case rel => exact ⟨k + 1, D, _, X, by omega, by go_num, rfl, hD', hC', hG'⟩
        case measure => simp [intOf]; omega
      · have hsn : Maps.has D (.int .i64 z) = false := by rw [hD.out.has]; simpa using hin
        have hD' : Hid (MpI (D.put (.int .i64 z) (.lit (.int .i64 (M.cnt (p.take k) : Int)))) (p.take (k + 1))) := by rw [Hid, HTK.out]; exact hD.out.new (hmap.tidy lawI) hin
        have hC' : Hid (OfS p (k + 1) (cur.set k (M.cnt (p.take k) : Int))) := hC.out.step (by rw [HN.out]; exact hlt) (by rw [HTK.out, M.ofL_snoc, M.nu_new hin])
        have hsize : Maps.size D = M.cnt (p.take k) := hD.out.size
        have hcl := M.cnt_take_le p k
        have hwm := wf_i64 (z := (M.cnt (p.take k) : Int)) (by omega) (by omega)
        have hfn : Hid (Mc.fpl p (k + 1) = Mc.fpl p k ++ [(k : Int)]) := Mc.fpl_new (by rw [HN.out]; exact hlt) (by rw [HZ.out]; exact hin)
        have hfl : (Mc.fpl p k).length ≤ 64 := by rw [Mc.fpl_len HP.out (by rw [HN.out]; omega)]; omega
        clear htk hz hin hC hD
        go_wp2_with (first
          | (at_lookup; refine wpList_lookup_own_ok_int _ rfl _ _ 142 rfl 3 3 .i64 lawI Try.underlying142 Try.underlying3 (zeroI _) (w.heap.size + 1 + 1) k D rfl hmap _ _ rfl hkey ?_; intro c2 hat hwc; clear hat hwc; rw [hsn])
          | (at_len; refine wpList_len_own _ rfl _ 142 rfl 3 3 Try.underlying142 _ (w.heap.size + 1 + 1) k D rfl hmap ?_; rw [hsize])
          | (at_mapUpdate; refine wpList_mapUpdate_own _ rfl _ _ _ 142 rfl 3 3 lawI Try.underlying142 _ (w.heap.size + 1 + 1) k D rfl hmap (by unfold maxLen; omega) _ _ _ rfl rfl hkey _ [] (plainElem_int Try.underlying3 hwm) ?_; intro w2 hmap1 hg1; have hu := hG.out.upd hg1; have hown := hu.2.2.2.2.1.alloc (.cells #[.int .i64 k] 3); have hsz1 := hu.2.2.2.2.2; have hb9 := (Below.refl (w.heap.size + 4) w2).alloc hsz1 (.cells #[.int .i64 k] 3); have hS1 : Hid (Rd (w2.alloc (.cells #[.int .i64 k] 3)) (some ⟨w2.heap.size, 0, none⟩) [(k : Int)]) := Rd.of_block (t := 3) (heap_alloc_new w2 _))
          | (at_builtin; refine wpList_append_list _ (W0 := w2) (B := w.heap.size + 4) (xs := Mc.fpl p k) (ys := [(k : Int)]) hown hS1.out rfl (by simp; omega) (by simp; omega) hb9 rfl _ _ rfl rfl rfl ?_; intro v3 w3 hown3 hb3; have hG3 : Mg w m A c n p (k + 1) (D.put (.int .i64 z) (.lit (.int .i64 (M.cnt (p.take k) : Int)))) cur v3 w3 := ⟨hu.1.trans (hb3.mono (by omega)), (hb3.block _ (by omega)).trans hu.2.1, (hb3.block _ (by omega)).trans hu.2.2.1, map_blk hmap1 (hb3.block _ (by omega)), own_blk hu.2.2.2.1 (hb3.block _ (by omega)), by rw [hfn.out]; exact hown3, Nat.le_trans hsz1 hb3.size⟩; have HG3 := Lib.hid (hG3.set k (M.cnt (p.take k) : Int)); obtain ⟨x0, hcx, hfz, _⟩ := own_cl hG3.nb hlt; clear hG3)
          | fail)
        go_roundw
        case rel => exact ⟨k + 1, _, _, _, by omega, by go_num, rfl, hD', hC', HG3⟩
        case measure => simp [intOf]; omega
    · obtain rfl : k = n := by omega
      obtain ⟨wo, rfl⟩ : ∃ wo : World, wo = wr := ⟨_, rfl⟩
      have hcur : cur = p := by
        have h1 := hC.out
        rw [← HN.out] at h1
        rw [h1.done]
        exact HP.out
      rw [hcur] at hG
      clear hcur hC hD cur
      obtain ⟨FA, fc, rfl, hfc⟩ := own_formI hG.out.fs
      obtain ⟨F, hF⟩ : ∃ F, Mc.fpl p k = F := ⟨_, rfl⟩
      obtain ⟨T, hT⟩ : ∃ T, (Mc.mrg m p).r = T := ⟨_, rfl⟩
      have HT := Lib.hid hT
      have hTF : Hid (T = F.map fun s => ((m.r[s.toNat]?).getD []).map fun x => (Mc.tgt p x.1, x.2)) := by
        show _ = _
        rw [← hT, ← hF, ← HN.out]
        rfl
      have hFrg : Hid (∀ f ∈ F, 0 ≤ f ∧ f < k) := fun f hf => by rw [← hF] at hf; exact Mc.fpl_lt (by rw [HN.out]; exact Nat.le_refl _) hf
      have hFr : Rd wo FA F := by rw [← hF]; exact Rd.of_own hG.out.fs
      have hK64 : F.length ≤ 64 := by
        rw [← hF, Mc.fpl_len HP.out (by rw [HN.out]; exact Nat.le_refl _)]
        have := M.cnt_take_le p k
        omega
      rw [hF] at hfc ⊢
      obtain ⟨K, hK⟩ : ∃ K, F.length = K := ⟨_, rfl⟩
      rw [hK] at hfc hK64 ⊢
      have HK := Lib.hid hK
      have hTl : Hid (T.length = K) := by show _ = _; rw [hTF.out, List.length_map, hK]
      have hNb : Hid (Rd wo (some ⟨w.heap.size + 1 + 1 + 1, 0, none⟩) p) := Rd.of_own hG.out.nb
      have hBM := Lib.hid hG.out.bm
      have hBO := Lib.hid hG.out.bo
      have hBE := Lib.hid hG.out.bel
      have hSZ := hG.out.sz
      clear hT hF hK hG hmm
      go_wp2_with (at_make; go_loud (refine wpList_make_rowsZ _ rfl _ _ rfl K (rnR T i 0) rfl rfl (by omega) wo.heap.size (Nat.le_refl _) ?_))
      intro w3 hW3 hb3
      obtain ⟨p9, hp9⟩ : ∃ q, wo.heap.size = q := ⟨_, rfl⟩
      have hRn0 : Hid (Mh wo p9 K [] (rnR T i 0) w3) := ⟨hb3, by rw [← hp9]; exact hW3⟩
      rw [hp9] at hSZ ⊢
      have hWP := Lib.hid hp9
      clear hW3 hb3 hp9
      go_wp2
      go_loopw [56] (fun v wr => ∃ (a : Nat) (gs : List Nat), a ≤ K ∧ v = .int .i64 a ∧ Hid (gs.length = a) ∧ Hid (Mh wo p9 K gs (rnR T i a) wr)) (fun v _ => K - (intOf v).toNat)
      case atStart => exact ⟨0, [], Nat.zero_le _, rfl, rfl, hRn0⟩
      case round =>
        obtain ⟨a, gs, ha, rfl, hgs, hR⟩ := hrel
        clear hRn0
        by_cases hak : a < K
        · have hak' : (a : Int) < K := by omega
          obtain ⟨b, off, z, rfl, hb, hc, hz⟩ := (hFr.below hR.out.bel).at_ (k := a) (by rw [HK.out]; exact hak)
          have hzl : F[a]? = some z := by
            have := hz.out
            rw [List.getElem?_eq_getElem (by rw [HK.out]; exact hak)] at this ⊢
            exact congrArg some this
          have hrg := hFrg.out z (List.mem_of_getElem? hzl)
          obtain ⟨t, rfl⟩ := Int.eq_ofNat_of_zero_le hrg.1
          have htl : t < m.r.length := by rw [HM.out]; omega
          have htk : (t : Int) < k := hrg.2
          have hbx := below_next hBE.out hR.out.bel
          obtain ⟨q0, q1, q2⟩ := (hBM.out.mvB hR.out.bel).cells
          obtain ⟨v0, x0, x1⟩ := hR.out.wb.cell (k := a) (by rw [hgs.out]; omega) (by rw [hgs.out, rnR_len (by rw [hTl.out]; omega), hTl.out]; omega)
          have hpl : p9 < wr.heap.size := heap_lt hR.out.wb.blk
          have hrowT : Hid ((rnR T i a)[gs.length]? = some (List.replicate i (0, 0))) := by
            show _ = _
            rw [hgs.out]
            exact rnR_at (by rw [hTl.out]; exact hak)
          have hR2 := hR.out.row (by rw [hgs.out]; exact hak) (by rw [rnR_len (by rw [hTl.out]; omega), hTl.out]) hrowT.out
          rw [hgs.out, List.length_replicate] at hR2
          have hbA : Below wr.heap.size wr (wr.alloc (.cells (eC (List.replicate i (0, 0))).toArray 26)) := (Below.refl _ _).alloc (Nat.le_refl _) _
          obtain ⟨v1, y0, y1⟩ := (hR.out.wb.below hbA).cell (k := a) (by rw [hgs.out]; omega) (by rw [hgs.out, rnR_len (by rw [hTl.out]; omega), hTl.out]; omega)
          rw [World.setCell_alloc_past _ _ _ _ (by show p9 < wr.heap.size; exact hpl)] at hR2
          obtain ⟨z0, z1, z2⟩ := (hBM.out.mvB hR2.bel).cells
          obtain ⟨b2, off2, B, dd, ni, row, hAe, hb2, hcw, _, _, _, hpw, hln, hqr⟩ := hr.at_ htl
          subst hAe
          have hc2 := ((below_next hBE.out hR2.bel).cell (p := ⟨b2, off2 + t, none⟩) hb2).trans hcw
          have hni : (ni : Int) = m.i := by rw [← hln.out]; exact HV.out.len row (List.mem_of_getElem? hqr.out)
          have hnii : ni = i := by have := HI.out; omega
          have hmi : Hid (m.i = (i : Int)) := HI.out
          have HR2 := Lib.hid hR2
          subst hnii
          clear hz hcw hbA x0 x1 hR2 hni hbx
          go_wp2_with (at_make; go_loud (refine wpList_make_edgesZ _ rfl _ _ rfl _ ni rfl rfl hmi.out (by omega) ?_))
          obtain ⟨g, hg⟩ : ∃ g, wr.heap.size = g := ⟨_, rfl⟩
          rw [hg] at HR2
          have hTa : Hid (T[a]? = some (row.map fun x => (Mc.tgt p x.1, x.2))) := by
            show _ = _
            rw [hTF.out, List.getElem?_map, hzl]
            show some (List.map _ ((m.r[t]?).getD [])) = _
            rw [hqr.out]
            rfl
          have hcurL : Hid (∀ j, j ≤ ni → (rnC (row.map fun x => (Mc.tgt p x.1, x.2)) ni j).length = ni) := fun j hj => rnC_len (by rw [List.length_map]; exact hln.out) hj
          have hR2' : Hid (Mh wo p9 K (gs ++ [g]) ((rnR T ni a).set a (rnC (row.map fun x => (Mc.tgt p x.1, x.2)) ni 0)) ((wr.setCell ⟨p9, a, none⟩ (.slice (some ⟨g, 0, none⟩) ni ni)).alloc (.cells (eC (List.replicate ni (0, 0))).toArray 26))) := by
            show Mh _ _ _ _ _ _
            rw [rnC_zero, rnR_self (by rw [hTl.out]; exact hak)]
            exact HR2.out
          clear z0 z1 z2 y0 y1 HR2 hR hc2 hc hzl
          go_wp2
          try rw [hg]
          obtain ⟨wv, rfl⟩ : ∃ wv : World, wv = wr := ⟨_, rfl⟩
          go_loopw [73] (fun v wr => ∃ j : Nat, j ≤ ni ∧ v = .int .i64 j ∧ Hid (Mh wo p9 K (gs ++ [g]) ((rnR T ni a).set a (rnC (row.map fun x => (Mc.tgt p x.1, x.2)) ni j)) wr)) (fun v _ => ni - (intOf v).toNat)
          case atStart => exact ⟨0, Nat.zero_le _, rfl, hR2'⟩
          case round =>
            obtain ⟨j, hj, rfl, hR⟩ := hrel
            clear hR2' hg
            by_cases hjn : j < ni
            · have hjn' : (j : Int) < ni := by omega
              obtain ⟨b3, off3, ex, ey, rfl, hb3, hx0, hy0, hqe⟩ := hpw.at_ (k := j) (by rw [hln.out]; exact hjn)
              have hbw := below_next hBE.out hR.out.bel
              have hx := (hbw.cell (p := ⟨b3, off3 + j * 2, none⟩) hb3).trans hx0
              have hy := (hbw.cell (p := ⟨b3, off3 + j * 2 + 1, none⟩) hb3).trans hy0
              obtain ⟨cur, hcur⟩ : ∃ cur, rnC (row.map fun x => (Mc.tgt p x.1, x.2)) ni j = cur := ⟨_, rfl⟩
              have hcl : Hid (cur.length = ni) := by show _ = _; rw [← hcur]; exact hcurL.out j hj
              rw [hcur] at hR
              have hset : Hid (cur.set j (Mc.tgt p ex, ey) = rnC (row.map fun x => (Mc.tgt p x.1, x.2)) ni (j + 1)) := by
                show _ = _
                rw [← hcur]
                exact rnC_set (by rw [List.length_map]; exact hln.out) (by rw [List.getElem?_map, hqe.out]; rfl)
              have hga : (gs ++ [g])[a]? = some g := by
                rw [List.getElem?_append_right (by rw [hgs.out]; exact Nat.le_refl _), hgs.out, Nat.sub_self]
                rfl
              have hra : ((rnR T ni a).set a cur)[a]? = some cur := by
                rw [List.getElem?_set_self (by rw [rnR_len (by rw [hTl.out]; omega), hTl.out]; exact hak)]
              have hbE : Below wr.heap.size wr (wr.alloc (.cells #[.int .i64 ex, .int .i64 ey] 26)) := (Below.refl _ _).alloc (Nat.le_refl _) _
              have hRE := hR.out.below hbE
              have x0 := hRE.wb.at_ hga hra (by rw [List.length_set, rnR_len (by rw [hTl.out]; omega), hTl.out, List.length_append, hgs.out]; simp; omega)
              rw [hcl.out] at x0
              obtain ⟨e0, e1, _, _⟩ := (BxE.new wr ex ey).cells
              have hok := HV.out.ok row (List.mem_of_getElem? hqr.out) _ (List.mem_of_getElem? hqe.out)
              simp only at hok
              have hexr : ex = -1 ∨ (0 ≤ ex ∧ ex < k) := by rw [HM.out] at hok; omega
              have CA := image_any ex ey (some ⟨w.heap.size + 1 + 1 + 1, 0, none⟩) k k p (wr.alloc (.cells #[.int .i64 ex, .int .i64 ey] 26)).drew (((hNb.out.below hR.out.bel).below hbE).below (Below.refl _ _).drew) HN.out hexr
              have HCA := Lib.hid CA
              have hgp : g ≠ p9 := (hR.out.wb.own g (List.mem_of_getElem? hga)).2.1
              have hgl : g < wr.heap.size := (hR.out.wb.own g (List.mem_of_getElem? hga)).2.2
              have hpl2 : p9 < wr.heap.size := heap_lt hR.out.wb.blk
              obtain ⟨ecs, hecs⟩ : ∃ v, cur[j]? = some v := ⟨_, List.getElem?_eq_getElem (by rw [hcl.out]; exact hjn)⟩
              have hgrow := hRE.wb.row a g cur hga hra
              have s0 : (wr.alloc (.cells #[.int .i64 ex, .int .i64 ey] 26)).cell? ⟨g, j * 2, none⟩ = some (.int .i64 ecs.1) := by
                rw [cell_of_row _ g _ _ _ (0, 0) hgrow]
                simpa using (eC_at hecs).1
              have s1 : (wr.alloc (.cells #[.int .i64 ex, .int .i64 ey] 26)).cell? ⟨g, j * 2 + 1, none⟩ = some (.int .i64 ecs.2) := by
                rw [cell_of_row _ g _ _ _ (0, 0) hgrow]
                simpa using (eC_at hecs).2
              have sf : ∀ o, (wr.alloc (.cells #[.int .i64 ex, .int .i64 ey] 26)).frozen? ⟨g, o, none⟩ = false := fun o => by simp only [World.frozen?, hgrow]; simp
              have HRE := Lib.hid hRE
              have hra2 := Lib.hid hra
              have hga2 := Lib.hid hga
              clear hx0 hy0 hok CA hgrow hecs hcur hRE hR hra hga hexr hbw hbE
              go_wp2_with fail
              go_region_held3 (fun w' => w'.cell? ⟨p9, a, none⟩ = some (.slice (some ⟨g, 0, none⟩) ni ni) ∧ w'.cell? ⟨wr.heap.size, 0, none⟩ = some (.int .i64 ex) ∧ w'.cell? ⟨wr.heap.size, 1, none⟩ = some (.int .i64 ey)) (first | exact ⟨m0, m1, m2⟩ | exact ⟨k0, k1, k2⟩ | exact ⟨x0, e0, e1⟩ | go_keep)
                (first
                  | (go_at_call 75
                     (with_reducible refine (HCA.out).mono ?_)
                     rintro e w9 ⟨rfl, hb9⟩
                     have k0 := (hb9.cell (p := ⟨p9, a, none⟩) (by show p9 < _; simp; omega)).trans x0
                     have k1 := (hb9.cell (p := ⟨wr.heap.size, 0, none⟩) (by show wr.heap.size < _; simp)).trans e0
                     have k2 := (hb9.cell (p := ⟨wr.heap.size, 1, none⟩) (by show wr.heap.size < _; simp)).trans e1
                     have k3 := (hb9.cell (p := ⟨g, j * 2, none⟩) (by show g < _; simp; omega)).trans s0
                     have k4 := (hb9.cell (p := ⟨g, j * 2 + 1, none⟩) (by show g < _; simp; omega)).trans s1
                     have k5 := (hb9.frozen (p := ⟨g, j * 2, none⟩) (by show g < _; simp; omega)).trans (sf _)
                     have k6 := (hb9.frozen (p := ⟨g, j * 2 + 1, none⟩) (by show g < _; simp; omega)).trans (sf _)
                     have mm9 := fun (b o : Nat) (h : b ≠ g) => World.cell?_of_block (w := w9) (w' := (w9.setCell ⟨g, j * 2, none⟩ (.int .i64 (Mc.tgt p ex))).setCell ⟨g, j * 2 + 1, none⟩ (.int .i64 ey)) (a := ⟨b, o, none⟩) ((Below.heap_setCell _ ⟨g, j * 2 + 1, none⟩ _ b h).trans (Below.heap_setCell _ ⟨g, j * 2, none⟩ _ b h))
                     have m0 := (mm9 p9 a hgp.symm).trans k0
                     have m1 := (mm9 wr.heap.size 0 (by omega)).trans k1
                     have m2 := (mm9 wr.heap.size 1 (by omega)).trans k2
                     dsimp only)
                  | fail)
              have hR9 := HRE.out.below (below_next (Below.refl _ _).drew hb9)
              have hR10 := hR9.put (i := j) (x := (Mc.tgt p ex, ey)) hga2.out hra2.out (by rw [hcl.out]; exact hjn)
              rw [List.set_set, hset.out] at hR10
              have HR10 := Lib.hid hR10
              clear hR9 hR10 k0 k1 k2 k3 k4 k5 k6 m0 m1 m2 mm9 hb9
              go_wp2
              go_roundw
              case rel => exact ⟨j + 1, by omega, by go_num, HR10⟩
              case measure => simp [intOf]; omega
            · have hjn2 : j = ni := by omega
              have hjn' : ¬ (j : Int) < ni := by omega
              have hR' : Hid (Mh wo p9 K (gs ++ [g]) (rnR T ni (a + 1)) wr) := by
                have h1 := hR.out
                rw [hjn2, rnC_all (by rw [List.length_map]; exact hln.out), rnR_set hTa.out] at h1
                exact h1
              have hgs' : Hid ((gs ++ [g]).length = a + 1) := by
                show _ = _
                rw [List.length_append, hgs.out]
                rfl
              clear hR hgs
              go_wp2
              go_roundw
              case rel => exact ⟨a + 1, gs ++ [g], by omega, by go_num, hgs', hR'⟩
              case measure => simp [intOf]; omega
        · obtain rfl : a = K := by omega
          have hak' : ¬ (a : Int) < a := by omega
          have hbO := hBO.out.mvB hR.out.bel
          obtain ⟨q0, q1, q2⟩ := (hBM.out.mvB hR.out.bel).cells
          obtain ⟨e0, e1, e2⟩ := hbO.cells
          obtain ⟨f0, f1, f2⟩ := hbO.frozen
          have hbel := Lib.hid (below_next hBE.out hR.out.bel)
          have hg5 : Hid (gs.length = a) := hgs
          obtain ⟨r0, r1, r2⟩ := set3_reads hbO (.int .i64 m.i) (.int .i64 m.o) (.slice (some ⟨p9, 0, none⟩) a a)
          have hpw9 := hWP.out
          have hfin : Hid (MgP w m p k (.returned (.tuple #[.agg #[.int .i64 m.i, .int .i64 m.o, .slice (some ⟨p9, 0, none⟩) a a], .slice (some ⟨w.heap.size + 1 + 1 + 1, 0, none⟩) k k])) (((wr.setCell ⟨w.heap.size + 1, 0, none⟩ (.int .i64 m.i)).setCell ⟨w.heap.size + 1, 1, none⟩ (.int .i64 m.o)).setCell ⟨w.heap.size + 1, 2, none⟩ (.slice (some ⟨p9, 0, none⟩) a a))) := by
            refine ⟨p9, a, gs, w.heap.size + 1 + 1 + 1, rfl, by rw [HT.out]; exact hTl.out, hg5.out, ?_, ?_, (by show w.heap.size ≤ w.heap.size + 1 + 1 + 1; omega), below_set3' hbel.out (by omega) _ _ _⟩
            · rw [HT.out]
              have e : rnR T i a = T := by rw [← hTl.out]; exact rnR_all
              have h1 := hR.out.wb
              rw [e] at h1
              have hge : ∀ g ∈ gs, wo.heap.size ≤ g := fun g hg => (h1.own g hg).1
              have h2 : Wb w.heap.size p9 a T gs wr := h1.lower hBE.out.size
              exact ((h2.far (by omega) (fun g hg => by have := hge g hg; omega) _).far (by omega) (fun g hg => by have := hge g hg; omega) _).far (by omega) (fun g hg => by have := hge g hg; omega) _
            · have h1 := hNb.out.below hR.out.bel
              have hne : w.heap.size + 1 + 1 + 1 ≠ w.heap.size + 1 := by omega
              exact ((h1.farB hne).farB hne).farB hne
          clear hR hgs
          go_wp2
          refine bodyPost_ret (v := .tuple #[.agg #[.int .i64 m.i, .int .i64 m.o, .slice (some ⟨p9, 0, none⟩) a a], .slice (some ⟨w.heap.size + 1 + 1 + 1, 0, none⟩) k k]) (by simp [results, Try.f72, go_sem, r0, r1, r2]) rfl ?_
          rw [← HP0.out]
          exact hfin.out
end Go.Proofs.Ytnodnfailjmpeaa
