/-
  Several texts in one: Sq3, Sq4. No statement is proved here.
-/
import Derived.Test.YtonnplhiaidjnaaSq2
import Derived.Test.YtonnplhiaidjnaaStI
namespace Go.Proofs.Ytonnplhiaidjnaa
open Go.RowKit
open Mc (Ed Ma)
attribute [local go_sem] Oper.semAt_some

/-- A call of extend in memory: its boxes, and the heads. -/
structure FrE (w0 : World) (B g : Nat) (i o : Int) (R : Option Addr) (n c L : Nat) (mo : Bool) (f h : Nat → Nat → Nat) (W : World) : Prop where
  bel : Below w0.heap.size w0 W
  p : Box W B (.pointer (some ⟨g, 0, none⟩))
  bm : BxM W (B + 1) i o R n c
  q : Box W (B + 1 + 1) (.int .i64 ((L : Int) + 1))
  r : Box W (B + 1 + 1 + 1) (.bool mo)
  hd : Hds W g f h
  wg : w0.heap.size ≤ g
  gB : g < B
section
variable {w0 : World} {B g : Nat} {i o : Int} {R : Option Addr} {n c L : Nat} {mo : Bool} {f h : Nat → Nat → Nat} {W W' : World}
theorem FrE.cells {C : Nat} (H : FrE w0 B g i o R n c L mo f h W) (k : Cells C W W') (hC : w0.heap.size ≤ C) : FrE w0 B g i o R n c L mo f h W' :=
  ⟨k.below hC H.bel, H.p.cells k, H.bm.mvC k, H.q.cells k, H.r.cells k, H.hd.cells k, H.wg, H.gB⟩
theorem FrE.below (H : FrE w0 B g i o R n c L mo f h W) (k : Below W.heap.size W W') : FrE w0 B g i o R n c L mo f h W' := H.cells (Cells.of_below' k) H.bel.size
theorem FrE.more (H : FrE w0 B g i o R n c L mo f h W) (b : Bool) : FrE w0 B g i o R n c L b f h (W.setCell ⟨B + 1 + 1 + 1, 0, none⟩ (.bool b)) :=
  ⟨H.bel.setCell (p := ⟨B + 1 + 1 + 1, 0, none⟩) (by have := H.wg; have := H.gB; show _ ≤ B + 1 + 1 + 1; omega) _, H.p.far (by omega) _, H.bm.farS (by omega) _, H.q.far (by omega) _, H.r.set_ _, H.hd.far (by have := H.gB; omega) _, H.wg, H.gB⟩
theorem FrE.set_ (H : FrE w0 B g i o R n c L mo f h W) {a b : Nat} (hb : b < 64) (x y : Nat) :
    FrE w0 B g i o R n c L mo (fun p q => if p = a ∧ q = b then x else f p q) (fun p q => if p = a ∧ q = b then y else h p q) ((W.setCell ⟨g, a * 128 + b * 2, none⟩ (.int .i64 x)).setCell ⟨g, a * 128 + b * 2 + 1, none⟩ (.int .i64 y)) :=
  ⟨(H.bel.setCell (p := ⟨g, _, none⟩) H.wg _).setCell (p := ⟨g, _, none⟩) H.wg _, (H.p.far (by have := H.gB; omega) _).far (by have := H.gB; omega) _, (H.bm.farS (by have := H.gB; omega) _).farS (by have := H.gB; omega) _,
    (H.q.far (by have := H.gB; omega) _).far (by have := H.gB; omega) _, (H.r.far (by have := H.gB; omega) _).far (by have := H.gB; omega) _, H.hd.set_ hb x y, H.wg, H.gB⟩
end
/-- Some pair that is done has a word of so many symbols. -/
def Mor (m : Ma) (n L k : Nat) (b : Bool) : Prop := b = true ↔ ∃ p q, Mc.dn n k p q ∧ p < n ∧ q < n ∧ Mc.sl m p q = L

theorem Mor.same {m : Ma} {n L k s t : Nat} {b : Bool} (H : Mor m n L k b) (hp : (Mc.prs n)[k]? = some (s, t)) (hst : s < n ∧ t < n) (hs : Mc.sl m s t = L → Mc.dn n k s t) : Mor m n L (k + 1) b := by
  unfold Mor at H ⊢
  rw [H, Mc.dn_step hp]
  constructor
  · rintro ⟨p, q, h1, h2⟩
    exact ⟨p, q, Or.inl h1, h2⟩
  · rintro ⟨p, q, (h1 | ⟨rfl, rfl⟩ | ⟨rfl, rfl⟩), h2, h3, h4⟩
    · exact ⟨p, q, h1, h2, h3, h4⟩
    · exact ⟨_, _, hs h4, hst.1, hst.2, h4⟩
    · rw [Mc.sl_comm] at h4
      exact ⟨_, _, hs h4, hst.1, hst.2, h4⟩
theorem Mor.put {m : Ma} {n L k s t : Nat} (hp : (Mc.prs n)[k]? = some (s, t)) (hst : s < n ∧ t < n) (hs : Mc.sl m s t = L) : Mor m n L (k + 1) true := by
  unfold Mor
  rw [Mc.dn_step hp]
  simp only [true_iff]
  exact ⟨s, t, Or.inr (Or.inl ⟨rfl, rfl⟩), hst.1, hst.2, hs⟩
/-- The pairs done so far. -/
def ExI (m : Ma) (w0 : World) (B g : Nat) (i o : Int) (R : Option Addr) (n c L : Nat) (k : Nat) (W : World) : Prop := ∃ mo f' h', FrE w0 B g i o R n c L mo f' h' W ∧ Hid (Mc.Tb m (L + 1) (Mc.dn n k) f' h') ∧ Hid (Mor m n (L + 1) k mo)
/-- The blocks that a round writes. -/
def ExD (B g : Nat) (b : Nat) : Prop := b = B + 1 + 1 + 1 ∨ b = g

set_option maxRecDepth 100000 in
set_option maxHeartbeats 4000000 in
theorem extend_any (m : Ma) (i : Nat) (o : Int) (R : Option Addr) (n c g L : Nat) (f h : Nat → Nat → Nat) (w0 w : World) (v : Mc.Val m) (hi : m.i = i) (hn : m.r.length = n) (hr : RdR w0 R m.r) (h0 : Below w0.heap.size w0 w) (hg : w0.heap.size ≤ g)
    (H : Hds w g f h) (hT : Mc.Tb m (L + 1) (fun _ _ => False) f h) (hL : L ≤ 64) :
    Calls Try.prog 81 #[.pointer (some ⟨g, 0, none⟩), .agg #[.int .i64 i, .int .i64 o, .slice R n c], .int .i64 ((L : Int) + 1)] w fun e w' => ∃ (b : Bool) (f' h' : Nat → Nat → Nat), e = .returned (.bool b) ∧ Hid (Hds w' g f' h') ∧ Hid (Mc.Tb m (L + 1) (Mc.dn n (Mc.prs n).length) f' h') ∧ Hid (Mor m n (L + 1) (Mc.prs n).length b) ∧ Hid (Below w0.heap.size w0 w') := by
  have hn64 : n ≤ 64 := by have := v.r1; omega
  have HV := Lib.hid v
  have HI := Lib.hid hi
  have HN := Lib.hid hn
  have HR := Lib.hid hr
  obtain ⟨B, hB⟩ : ∃ B, w.heap.size = B := ⟨_, rfl⟩
  have hgB : g < B := by rw [← hB]; exact H.lt
  have f0 : FrE w0 B g i o R n c L false f h ((((w.alloc (.cells #[.pointer (some ⟨g, 0, none⟩)] 108)).alloc (.cells #[.int .i64 i, .int .i64 o, .slice R n c] 27)).alloc (.cells #[.int .i64 ((L : Int) + 1)] 3)).alloc (.cells #[.bool false] 4)) := by
    have b1 : Below w.heap.size w (w.alloc (.cells #[.pointer (some ⟨g, 0, none⟩)] 108)) := (Below.refl _ _).alloc (Nat.le_refl _) _
    have hh : w0.heap.size ≤ w.heap.size := h0.size
    refine ⟨(((h0.alloc h0.size _).alloc (by simp; omega) _).alloc (by simp; omega) _).alloc (by simp; omega) _, ?_, ?_, ?_, ?_, ?_, hg, hgB⟩
    · exact (((Box.new_ hB _ _).alloc _).alloc _).alloc _
    · exact ((BxM.newE (by simp [hB]) i o R n c).mvB ((Below.refl _ _).alloc (Nat.le_refl _) _)).mvB ((Below.refl _ _).alloc (Nat.le_refl _) _)
    · exact (Box.new_ (by simp [hB]) _ _).alloc _
    · exact Box.new_ (by simp [hB]) _ _
    · exact (((H.below b1).below ((Below.refl _ _).alloc (Nat.le_refl _) _)).below ((Below.refl _ _).alloc (Nat.le_refl _) _)).below ((Below.refl _ _).alloc (Nat.le_refl _) _)
  obtain ⟨m0, _⟩ : ∃ m0 : Nat, True := ⟨3, trivial⟩
  refine (callsIn_wide (n := m0)).1 ?_
  clear hi hn hr v H
  refine callsIn_of_wp_marks Try.func81 rfl trivial ?_
  simp only [Try.ntmps81, List.size_toArray, List.length_cons, List.length_nil, Nat.reduceAdd, Nat.reduceSub, Array.replicate_succ, Array.replicate_zero, List.push_toArray, List.append_toArray, List.nil_append, List.cons_append]
  gi_wp2_with fail
  refine wpIn_scope_wide ?_
  gi_wp2_with fail
  refine wpIn_label ?_
  gi_wp2_with fail
  refine wide_calls (pairs_any _ _) ?_
  rintro e w1 ⟨rfl, rfl⟩
  gi_wp2_with fail
  obtain ⟨X, hX⟩ : ∃ X, ((((w.alloc (.cells #[.pointer (some ⟨g, 0, none⟩)] 108)).alloc (.cells #[.int .i64 i, .int .i64 o, .slice R n c] 27)).alloc (.cells #[.int .i64 ((L : Int) + 1)] 3)).alloc (.cells #[.bool false] 4)).alloc (.cells #[.int .i64 n] 3) = X := ⟨_, rfl⟩
  have f1 : FrE w0 B g i o R n c L false f h X := by rw [← hX]; exact f0.below ((Below.refl _ _).alloc (Nat.le_refl _) _)
  have hbx : Box X (B + 1 + 1 + 1 + 1) (.int .i64 n) := by rw [← hX]; exact Box.new_ (by simp [hB]) _ _
  have hXs : B + 1 + 1 + 1 + 1 < X.heap.size := hbx.lt
  rw [hX]
  clear f0 hX hB
  have hG := pairs1_gives (m0 - 1) (B + 1 + 1 + 1 + 1) n (ExD B g) X hbx (by unfold ExD; omega) (by omega)
  refine range_list (m := m0) 83 _ rfl (enters_of Try.func83 (by kernel_rfl) rfl) ((Mc.prs n).map pv) (ExD B g) (fun b h => by show b < _; rcases h with h | h <;> omega) ?hps hG
    (ExI m w0 B g i o R n c L)
    (fun _ _ => False)
    (fun k A B h c => ?keep) (fun c' A B h c => h) ?start ?round ?done ?stop
  case hps => intro v hv; obtain ⟨p, _, rfl⟩ := List.mem_map.1 hv; rfl
  case keep => obtain ⟨mo, f', h', h1, h2⟩ := h; exact ⟨mo, f', h', h1.cells c (by have := f1.bel.size; omega), h2⟩
  case start => exact ⟨false, f, h, f1, hT.same_ (fun a b _ _ _ _ => Mc.dn_zero n a b), by show _ ↔ _; simp [Mc.dn_zero]⟩
  case stop => rintro N c' W hN h; exact h.elim
  case done =>
    intro N W hN ⟨mo, f', h', hI, hT', hM'⟩ hd
    rw [List.length_map] at hT' hM'
    have qc := hI.r.1
    clear hG hbx
    have hI3 := hI.cells (C := N) (Cells.put (.deferred none) hd rfl (Nat.le_refl N)) (by have := f1.bel.size; omega)
    clear f1
    simp only [marked]
    gi_wp2_with fail
    rw [Exit.noGoto_ret]
    refine ⟨by simp, .inl ⟨_, _, rfl, run_takeDeferred hd, ?_⟩⟩
    refine ⟨.bool mo, by simp [results, Try.f81, go_sem], mo, f', h', rfl, hI3.hd, hT', hM', hI3.bel⟩
  case round =>
    intro l k v W hk hW ⟨mo, f', h', hI, hT', hM'⟩
    rw [List.getElem?_map, Option.map_eq_some_iff] at hk
    obtain ⟨⟨s, t⟩, hp, rfl⟩ := hk
    have HP := Lib.hid hp
    obtain ⟨hst, htn⟩ := Mc.prs_lt hp
    simp only at hst htn
    clear hp hG hbx
    simp only [pv]
    gi_wp2_with fail
    refine ⟨Below.refl _ _, fun W2 hc2 => ?_⟩
    have hI2 := hI.cells hc2 (by have := f1.bel.size; omega)
    clear hI hc2 f1
    have hs64 : s < 64 := by omega
    have ht64 : t < 64 := by omega
    have hsn : s < n := by omega
    have hsN : s < m.r.length := by rw [HN.out]; omega
    have htN : t < m.r.length := by rw [HN.out]; omega
    obtain ⟨z, hz⟩ : ∃ z, f' s t = z := ⟨_, rfl⟩
    obtain ⟨c0, _⟩ := hI2.hd.at_ hs64 ht64
    have c1 := hI2.p.1
    rw [hz] at c0
    by_cases hf : z = 0
    · subst hf
      obtain ⟨b1, o1, B1, cc1, n1, row1, rfl, hb1, hc1, _, _, _, hp1, hl1, hr1⟩ := HR.out.at_ (k := s) (by omega)
      obtain ⟨b2, o2, B2, cc2, n2, row2, e2, hb2, hc2, _, _, _, hp2, hl2, hr2⟩ := HR.out.at_ (k := t) (by omega)
      injection e2 with e2
      injection e2 with e2 e3
      subst e2 e3
      have hn1 : n1 = i := by have := HV.out.len row1 (List.mem_of_getElem? hr1.out); have := hl1.out; have := HI.out; omega
      have hn2 : n2 = i := by have := HV.out.len row2 (List.mem_of_getElem? hr2.out); have := hl2.out; have := HI.out; omega
      subst hn1
      subst hn2
      have d1 := (hI2.bel.cell (p := ⟨b1, o1 + s, none⟩) hb1).trans hc1
      obtain ⟨_, _, m2⟩ := hI2.bm.cells
      have HF := Lib.hid hI2
      clear hI2
      gi_wp2_with fail
      clear c0 c1 d1 m2
      have hb0 : Hid (Below W2.heap.size W2 W2) := Below.refl _ _
      have hn16 : n2 ≤ 16 := by have := HV.out.i1; have := HI.out; omega
      gi_loopw [35] (fun v wr => ∃ j : Nat, j ≤ n2 ∧ v = .int .i64 j ∧ Hid (∀ j', j' < j → Mc.hit m s t L j' = false) ∧ Hid (FrE w0 B g n2 o (some ⟨b1, o1, none⟩) n c L mo f' h' wr) ∧ Hid (Below W2.heap.size W2 wr)) (fun v _ => n2 - (intOf v).toNat)
      case atStart => exact ⟨0, Nat.zero_le _, rfl, fun j' h => absurd h (by omega), HF, hb0⟩
      case round =>
        clear HF hb0
        obtain ⟨j, hj, rfl, hno, hF, hbr⟩ := hrel
        by_cases hji : j < n2
        · have hji' : decide ((j : Int) < n2) = true := decide_eq_true (by omega)
          have hjI : (j : Int) < m.i := by rw [HI.out]; omega
          obtain ⟨q1, r1, x0, x1, rfl, hq1, hx0, hx1, hxe⟩ := hp1.at_ (k := j) (by have := hl1.out; omega)
          obtain ⟨q2, r2, y0, y1, rfl, hq2, hy0, hy1, hye⟩ := hp2.at_ (k := j) (by have := hl2.out; omega)
          have nxx : Mc.nx m s j = (x0, x1) := Mc.nx_at hr1.out hxe.out
          have nxy : Mc.nx m t j = (y0, y1) := Mc.nx_at hr2.out hye.out
          have hrest := hT'.out.rest HV.out hsN htN hjI
          rw [nxx, nxy] at hrest
          have hlt : x1 = y1 → x0 ≠ -1 → 0 ≤ x0 ∧ x0 < 64 ∧ 0 ≤ y0 ∧ y0 < 64 := fun e1 e2 => by
            have e3 : (Mc.nx m s j).2 = (Mc.nx m t j).2 := by rw [nxx, nxy]; exact e1
            rcases Mc.both HV.out hsN htN hjI e3 with ⟨h1, _⟩ | ⟨a', b', h1, h2, h3, h4⟩
            · rw [nxx] at h1; exact absurd h1 e2
            · rw [nxx] at h1
              rw [nxy] at h2
              have := HN.out
              simp only at h1 h2
              omega
          have HLT := Lib.hid hlt
          have HRS := Lib.hid hrest
          clear hlt hrest nxx nxy
          have d1 := (hF.out.bel.cell (p := ⟨q1, r1 + j * 2, none⟩) hq1).trans hx0
          have d2 := (hF.out.bel.cell (p := ⟨q1, r1 + j * 2 + 1, none⟩) hq1).trans hx1
          gi_wp2_with fail
          obtain ⟨U, hU⟩ : ∃ U, wr.alloc (.cells #[.int .i64 x0, .int .i64 x1] 58) = U := ⟨_, rfl⟩
          have hbU : Below wr.heap.size wr U := by rw [← hU]; exact (Below.refl _ _).alloc (Nat.le_refl _) _
          have hxU : BxE U wr.heap.size x0 x1 := by rw [← hU]; exact BxE.new wr x0 x1
          obtain ⟨gx, hgx⟩ : ∃ gx, wr.heap.size = gx := ⟨_, rfl⟩
          have hFU := hF.out.below hbU
          have hbr2 := Lib.hid (below_next hbr.out hbU)
          rw [hgx] at hxU
          rw [hU, hgx]
          clear hU hgx hbU d1 d2 hF hbr
          obtain ⟨u0, u1, _, _⟩ := hxU.cells
          obtain ⟨_, _, m2⟩ := hFU.bm.cells
          have e1 := (hFU.bel.cell (p := ⟨b1, o1 + t, none⟩) hb2).trans hc2
          have e2 := (hFU.bel.cell (p := ⟨q2, r2 + j * 2, none⟩) hq2).trans hy0
          have e3 := (hFU.bel.cell (p := ⟨q2, r2 + j * 2 + 1, none⟩) hq2).trans hy1
          have hlo := hFU.bel.size
          have lgx : gx < U.heap.size := heap_lt hxU
          have lB : B < U.heap.size := hFU.p.lt
          have lB1 : B + 1 < U.heap.size := heap_lt hFU.bm
          have g0 : ∀ x : BW U, x.out.cell? ⟨B, 0, none⟩ = some (.pointer (some ⟨g, 0, none⟩)) := fun x => (x.ok.cell (p := ⟨B, 0, none⟩) lB).trans hFU.p.1
          have g1 : ∀ x : BW U, x.out.cell? ⟨gx, 0, none⟩ = some (.int .i64 x0) := fun x => (x.ok.cell (p := ⟨gx, 0, none⟩) lgx).trans u0
          have g2 : ∀ x : BW U, x.out.cell? ⟨gx, 1, none⟩ = some (.int .i64 x1) := fun x => (x.ok.cell (p := ⟨gx, 1, none⟩) lgx).trans u1
          have g3 : ∀ x : BW U, x.out.cell? ⟨B + 1, 2, none⟩ = some (.slice (some ⟨b1, o1, none⟩) n c) := fun x => (x.ok.cell (p := ⟨B + 1, 2, none⟩) lB1).trans m2
          have g4 : ∀ x : BW U, x.out.cell? ⟨b1, o1 + t, none⟩ = some _ := fun x => (x.ok.cell (p := ⟨b1, o1 + t, none⟩) (by show b1 < _; omega)).trans e1
          have g5 : ∀ x : BW U, x.out.cell? ⟨q2, r2 + j * 2, none⟩ = some (.int .i64 y0) := fun x => (x.ok.cell (p := ⟨q2, r2 + j * 2, none⟩) (by show q2 < _; omega)).trans e2
          have g6 : ∀ x : BW U, x.out.cell? ⟨q2, r2 + j * 2 + 1, none⟩ = some (.int .i64 y1) := fun x => (x.ok.cell (p := ⟨q2, r2 + j * 2 + 1, none⟩) (by show q2 < _; omega)).trans e3
          obtain ⟨rn, hrn⟩ : ∃ r, Mc.rsN f' (x0, x1) (y0, y1) = r := ⟨_, rfl⟩
          obtain ⟨rb, hrb⟩ : ∃ r, Mc.rsB f' (x0, x1) (y0, y1) = r := ⟨_, rfl⟩
          have HRS2 : Hid ((rb && (rn == L)) = Mc.hit m s t L j) := by rw [← hrn, ← hrb]; exact HRS.out
          have CR := fun (x : BW U) => rest_any g f' h' x0 x1 y0 y1 x.out (hFU.hd.below x.ok) HLT.out
          rw [hrn, hrb] at CR
          clear hrn hrb HRS HLT u0 u1 m2 e1 e2 e3 hxU
          refine wpIn_region_quiet_below (by kernel_rfl) (by kernel_rfl) (by kernel_rfl) ?_
          repeat (go_big_quiet_step ((rename_i x; refine (CR x).mono ?_; rintro e w2 ⟨rfl, hb2⟩; exact ⟨rfl, ⟨w2, below_next x.ok hb2⟩, rfl⟩)))
          refine wpQuiet_nil ?_
          intro w20 hw20
          obtain ⟨⟨wx, hbW⟩, hw3⟩ := hw20
          dsimp only at hw3
          subst hw3
          clear g0 g1 g2 g3 g4 g5 g6 CR
          have hFX := hFU.below hbW
          have hbX := Lib.hid (below_next hbr2.out hbW)
          clear hFU hbW hbr2 hlo lgx lB lB1
          have q5 := hFX.q.1
          have hsub : (L : Int) + 1 - 1 = L := by omega
          have hnx : Hid ((∀ a, Mc.hit m s t L j = a → (rb && (rn == L)) = a)) := fun a h => HRS2.out.trans h
          by_cases hh : rb = true ∧ rn = L
          · obtain ⟨rfl, rfl⟩ := hh
            have hhit : Hid (Mc.hit m s t rn j = true) := by show _ = _; rw [← HRS2.out]; simp
            have hput := Lib.hid (hT'.out.put HV.out hsN htN hz hjI hhit.out (fun j' h => hno.out j' h))
            clear hnx HRS2 hno
            gi_wp2_with fail
            clear q5
            obtain ⟨Y, hY⟩ : ∃ Y, w20.drew = Y := ⟨_, rfl⟩
            have hbY : Below w20.heap.size w20 Y := by rw [← hY]; exact (Below.refl _ _).drew
            have hFd := hFX.below hbY
            have hsI : (s : Int) < 64 := by omega
            have htI : (t : Int) < 64 := by omega
            obtain ⟨p1, _⟩ := hFd.p
            obtain ⟨p2, _⟩ := hFd.q
            obtain ⟨a0, a1⟩ := hFd.hd.at_ hs64 ht64
            have a2 := hFd.hd.frozen (s * 128 + t * 2)
            have a3 := hFd.hd.frozen (s * 128 + t * 2 + 1)
            refine wpIn_region_still_tail 9 (by kernel_rfl) (by kernel_rfl) (by kernel_rfl) ?_
            rw [hY]
            clear hY
            simp only [List.take_succ_cons, List.take_zero, List.drop_succ_cons, List.drop_zero]
            repeat still_step
            refine wpStill_nil ?_
            gi_wp2_with fail
            have hF2 := hFd.set_ (a := s) ht64 (rn + 1) j
            rw [show ((rn + 1 : Nat) : Int) = (rn : Int) + 1 by omega] at hF2
            have hk2 := ((KA.of_below (D := ExD B g) (below_next hbX.out hbY)).trans (KA.set (D := ExD B g) (off := s * 128 + t * 2) Y (Or.inr rfl) (.int .i64 ((rn : Int) + 1)))).trans (KA.set (D := ExD B g) (off := s * 128 + t * 2 + 1) _ (Or.inr rfl) (.int .i64 j))
            obtain ⟨Z, hZ⟩ : ∃ Z, (Y.setCell ⟨g, s * 128 + t * 2, none⟩ (.int .i64 ((rn : Int) + 1))).setCell ⟨g, s * 128 + t * 2 + 1, none⟩ (.int .i64 j) = Z := ⟨_, rfl⟩
            rw [hZ] at hF2 hk2
            rw [hZ]
            clear hZ p1 p2 a0 a1 a2 a3 hFd hbY hbX hFX
            obtain ⟨V, hV⟩ : ∃ V, Z.drew = V := ⟨_, rfl⟩
            have hbV : Below Z.heap.size Z V := by rw [← hV]; exact (Below.refl _ _).drew
            have hF3 := hF2.below hbV
            have hk3 := hk2.trans (KA.of_below hbV)
            obtain ⟨p1, _⟩ := hF3.p
            obtain ⟨a0, a1⟩ := hF3.hd.at_ hs64 ht64
            obtain ⟨a4, a5⟩ := hF3.hd.at_ ht64 hs64
            simp only [and_self, if_true] at a0 a1
            rw [show ((rn + 1 : Nat) : Int) = (rn : Int) + 1 by omega] at a0
            have a2 := hF3.hd.frozen (t * 128 + s * 2)
            have a3 := hF3.hd.frozen (t * 128 + s * 2 + 1)
            have hF4 := hF3.set_ (a := t) hs64 (rn + 1) j
            rw [show ((rn + 1 : Nat) : Int) = (rn : Int) + 1 by omega] at hF4
            have hk4 := (hk3.trans (KA.set (D := ExD B g) (off := t * 128 + s * 2) V (Or.inr rfl) (.int .i64 ((rn : Int) + 1)))).trans (KA.set (D := ExD B g) (off := t * 128 + s * 2 + 1) _ (Or.inr rfl) (.int .i64 j))
            rw [Mc.upd_two, Mc.upd_two] at hF4
            clear hF2 hF3 hk2 hk3 hbV
            refine wpIn_region_still_tail 13 (by kernel_rfl) (by kernel_rfl) (by kernel_rfl) ?_
            rw [hV]
            clear hV
            simp only [List.take_succ_cons, List.take_zero, List.drop_succ_cons, List.drop_zero]
            repeat still_step
            refine wpStill_nil ?_
            have RH : Hid (∀ a, roundP (ExD B g) (ExI m w0 B g n2 o (some ⟨b1, o1, none⟩) n c rn) (fun _ _ => False) k W2 .normal a _) := fun a =>
              ⟨⟨true, _, _, hF4.more true, by show Mc.Tb _ _ _ _ _; rw [Mc.dn_step HP.out]; exact hput.out.1, Mor.put HP.out ⟨hsn, htn⟩ hput.out.2⟩, hk4.trans (KA.set (D := ExD B g) (off := 0) _ (Or.inl rfl) (.bool true))⟩
            obtain ⟨c8, c9⟩ := hF4.r
            clear hF4 hk4 hput hhit hT' hM'
            gi_wp2_with fail
            exact RH.out _
          · have hmiss : Hid (Mc.hit m s t L j = false) := by
              show _ = _
              rw [← HRS2.out]
              cases rb with
              | false => rfl
              | true =>
                have : rn ≠ L := fun e => hh ⟨rfl, e⟩
                simp [this]
            have hno2 : Hid (∀ j', j' < j + 1 → Mc.hit m s t L j' = false) := fun j' h => by
              by_cases e : j' = j
              · subst e; exact hmiss.out
              · exact hno.out j' (by omega)
            have HFX := Lib.hid hFX
            cases rb with
            | false =>
              clear hnx HRS2 hno hmiss hFX
              gi_wp2_with fail
              go_roundw
              case rel => exact ⟨j + 1, by omega, by go_num, hno2, HFX, hbX⟩
              case measure => simp [intOf]; omega
            | true =>
              have hrl : ((rn : Int) == (L : Int)) = false := by
                have : rn ≠ L := fun e => hh ⟨rfl, e⟩
                simp; omega
              clear hnx HRS2 hno hmiss hFX
              gi_wp2_with fail
              go_roundw
              case rel => exact ⟨j + 1, by omega, by go_num, hno2, HFX, hbX⟩
              case measure => simp [intOf]; omega
        · have hji' : decide ((j : Int) < n2) = false := decide_eq_false (by omega)
          have hne := hT'.out.none HV.out hsN htN (fun j' h => hno.out j' (by rw [HI.out] at h; omega))
          have RH : Hid (∀ a, roundP (ExD B g) (ExI m w0 B g n2 o (some ⟨b1, o1, none⟩) n c L) (fun _ _ => False) k W2 .normal a wr) := fun a =>
            ⟨⟨mo, f', h', hF.out, by show Mc.Tb _ _ _ _ _; rw [Mc.dn_step HP.out]; exact hne.1, hM'.out.same HP.out ⟨hsn, htn⟩ (fun e => absurd e hne.2)⟩, KA.of_below hbr.out⟩
          clear hne hF hbr hno hT' hM'
          gi_wp2_with fail
          exact RH.out _
    · have hz2 : ((z : Int) != 0) = true := by simp [hf]
      have RH : Hid (∀ a, roundP (ExD B g) (ExI m w0 B g i o R n c L) (fun _ _ => False) k W2 .normal a W2) := fun a =>
        ⟨⟨mo, f', h', hI2, by show Mc.Tb _ _ _ _ _; rw [Mc.dn_step HP.out]; exact hT'.out.skip (fun _ _ h => Mc.dn_comm h) hsN htN (by rw [hz]; exact hf), hM'.out.same HP.out ⟨hsn, htn⟩ (fun e => Classical.byContradiction fun hd => by
          have := hT'.out.no s t hsN htN (fun ⟨_, h2⟩ => by
            rcases h2 with h2 | h2
            · omega
            · exact hd h2.2)
          omega)⟩, KA.refl _⟩
      clear hI2 hT' hM'
      gi_wp2_with fail
      exact RH.out _
end Go.Proofs.Ytonnplhiaidjnaa

namespace Go.Proofs.Ytonnplhiaidjnaa
open Go.RowKit
open Mc (Ed Ma)

set_option maxRecDepth 1000000 in
theorem zero_heads : Try.zeroCells141.toList = List.replicate 8192 (Value.int .i64 0) := by kernel_rfl
theorem Hds.zero {w : World} {g : Nat} (h : w.heap[g]? = some (.cells Try.zeroCells141 141 (0, 0))) : Hds w g (fun _ _ => 0) (fun _ _ => 0) := by
  have hz := zero_heads
  obtain ⟨C, hC⟩ : ∃ C, Try.zeroCells141 = C := ⟨_, rfl⟩
  rw [hC] at h hz
  have hsz : C.size = 8192 := by rw [← Array.length_toList, hz, List.length_replicate]
  refine ⟨C, h, hsz, fun a b ha hb => ⟨?_, ?_⟩⟩
  · rw [← Array.getElem?_toList, hz, List.getElem?_replicate, if_pos (by omega)]; rfl
  · rw [← Array.getElem?_toList, hz, List.getElem?_replicate, if_pos (by omega)]; rfl
theorem Mor.none_ {m : Ma} {n L : Nat} (hn : m.r.length = n) (h : Mor m n (L + 1) (Mc.prs n).length false) : ∀ a b, a < m.r.length → b < m.r.length → Mc.sl m a b ≠ L + 1 := fun a b ha hb e => by
  by_cases hab : a = b
  · subst hab; rw [Mc.sl_same] at e; omega
  · have := h.2 ⟨a, b, Mc.dn_all (by omega) (by omega) hab, by omega, by omega, e⟩
    cases this

set_option maxRecDepth 100000 in
set_option maxHeartbeats 4000000 in
theorem search_any (m : Ma) (i : Nat) (o : Int) (R : Option Addr) (n c : Nat) (w : World) (v : Mc.Val m) (hi : m.i = i) (hn : m.r.length = n) (hr : RdR w R m.r) :
    Calls Try.prog 65 #[.agg #[.int .i64 i, .int .i64 o, .slice R n c]] w fun e w' => ∃ (g : Nat) (f h : Nat → Nat → Nat), e = .returned (.pointer (some ⟨g, 0, none⟩)) ∧ w.heap.size ≤ g ∧ Hid (Hds w' g f h) ∧ Hid (Mc.TbF m f h) ∧ Hid (Below w.heap.size w w') := by
  have hn64 : n ≤ 64 := by have := v.r1; omega
  have hn1 : 1 ≤ n := by have := v.r0; omega
  obtain ⟨W0, hW0⟩ : ∃ W0, boxM w i o R n c = W0 := ⟨_, rfl⟩
  have EB : Below w.heap.size w W0 := by rw [← hW0]; exact (Below.refl _ _).alloc (Nat.le_refl _) _
  have hsz : W0.heap.size = w.heap.size + 1 := by rw [← hW0]; simp
  have hM := BxM.new w i o R n c
  rw [hW0] at hM
  have hr0 := hr.below EB
  have CE := fun (w2 : World) (f h : Nat → Nat → Nat) (L : Nat) h0 H hT hL => extend_any m i o R n c W0.heap.size L f h W0 w2 v hi hn hr0 h0 (Nat.le_refl _) H hT hL
  have HV := Lib.hid v
  have HN := Lib.hid hn
  have HB := Lib.hid EB
  have HM := Lib.hid hM
  clear v hi hr hr0 EB hM
  go_enter Try.func65, Try.ntmps65
  go_wp2_with fail
  obtain ⟨X, hX2⟩ : ∃ X, W0.alloc (.cells Try.zeroCells141 141) = X := ⟨_, rfl⟩
  have hbX : Below W0.heap.size W0 X := by rw [← hX2]; exact (Below.refl _ _).alloc (Nat.le_refl _) _
  have hHX : Hid (Hds X W0.heap.size (fun _ _ => 0) (fun _ _ => 0)) := Hds.zero (by rw [← hX2]; exact heap_alloc_new W0 _)
  have hbX2 := Lib.hid hbX
  have hTX : Hid (Mc.Tb m (0 + 1) (fun _ _ => False) (fun _ _ => 0) (fun _ _ => 0)) := Mc.Tb.start m
  obtain ⟨g, hg⟩ : ∃ g, W0.heap.size = g := ⟨_, rfl⟩
  have hwg : w.heap.size ≤ g := by omega
  have hwg2 : w.heap.size < g := by omega
  have hge : w.heap.size + 1 = g := by omega
  rw [hg] at hHX hbX2 CE
  rw [hX2, hge]
  have hn' := HN.out
  clear hX2 hbX hW0 hn
  go_loopw [4] (fun v wr => ∃ (L : Nat) (f h : Nat → Nat → Nat), L < n ∧ v = .int .i64 ((L : Int) + 1) ∧ Hid (Hds wr g f h) ∧ Hid (Mc.Tb m (L + 1) (fun _ _ => False) f h) ∧ Hid (Below g W0 wr)) (fun v _ => n + 1 - (intOf v).toNat)
  case atStart => exact ⟨0, _, _, by omega, rfl, hHX, hTX, hbX2⟩
  case round =>
    clear hHX hTX hbX2
    obtain ⟨L, f, h, hL, rfl, hH, hT, hbr⟩ := hrel
    obtain ⟨m0, m1, m2⟩ := (BxM.cells (g := w.heap.size) (show BxM wr w.heap.size i o R n c from (hbr.out.block _ hwg2).trans HM.out))
    go_wp2_with fail
    clear m0 m1 m2
    refine (CE _ f h L hbr.out hH.out hT.out (by omega)).mono ?_
    rintro e w2 ⟨b, f', h', rfl, hH2, hT2, hM2, hb2⟩
    clear hH hT hbr
    cases b with
    | true =>
      obtain ⟨p, q, _, hp, hq, hs⟩ := hM2.out.1 rfl
      have hlt := Mc.sl_lt HV.out (s := p) (t := q) (by omega) (by omega)
      have hL2 : L + 1 < n := by omega
      have hT3 : Hid (Mc.Tb m (L + 1 + 1) (fun _ _ => False) f' h') := hT2.out.turn fun a b ha hb hab => Mc.dn_all (by omega) (by omega) hab
      clear hs hlt hp hq hT2 hM2
      go_wp2_with fail
      go_roundw
      case rel => exact ⟨L + 1, f', h', hL2, by go_num, hH2, hT3, hb2⟩
      case measure => simp [intOf]; omega
    | false =>
      have hTF : Hid (Mc.TbF m f' h') := hT2.out.fin HV.out (Mor.none_ HN.out hM2.out)
      have hbF : Hid (Below w.heap.size w w2) := HB.out.trans (hb2.out.mono hwg)
      clear hT2 hM2
      go_wp2_with fail
      go_ret
      exact ⟨g, f', h', rfl, hwg, hH2, hTF, hbF⟩
end Go.Proofs.Ytonnplhiaidjnaa
