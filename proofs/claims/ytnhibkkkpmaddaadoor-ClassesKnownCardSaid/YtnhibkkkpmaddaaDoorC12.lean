/-
  Contracts: classes.Meet.
-/
import Derived.Test.YtnhibkkkpmaddaaDoorC8
import Derived.WideKeyPair
import Derived.DeepKeys4
import Derived.BigRegion
namespace Go.Proofs.YtnhibkkkpmaddaaDoor
open Go.RowKit Go.Maps

theorem laidOutK : laidOutB Tryd.prog = true := by kernel_rfl
theorem rowP : (45 : TypeId) < Tryd.prog.types.size := of_decide_eq_true (by kernel_rfl)
theorem cellsP : Tryd.prog.cellsOf 45 = 2 := by kernel_rfl
theorem arrP : WideMaps.ArrKey Tryd.prog 45 3 2 := ⟨Tryd.underlying45, by kernel_rfl, by kernel_rfl, cellsP⟩
theorem wideP : (match Tryd.prog.underlying 45 with | some (.array _ _) | some (.struct _) => true | _ => false) = true := by rw [Tryd.underlying45]
theorem ktP : Tryd.prog.keyTypeAt 2 45 = true := by kernel_rfl
set_option maxRecDepth 1000000 in
theorem lawP0 : WideMaps.KeyLaw Tryd.prog 45 := deep_law_laid laidOutK (m := 2) (by decide) rowP ktP wideP
theorem lawP : Keyed Tryd.prog 45 := Keyed.of_law lawP0
theorem sizeP : ∃ m, Tryd.prog.types.size = m + 1 := by
  have h := rowP
  generalize Tryd.prog.types.size = n at h ⊢
  exact ⟨n - 1, (Nat.sub_add_cancel (Nat.lt_of_le_of_lt (Nat.zero_le _) h)).symm⟩
def klP (x y : Int) : Lit := .string (keyBytes [.int .i64 x, .int .i64 y])
def Sm (x : Int) : Prop := 0 ≤ x ∧ x ≤ 1000
theorem keyP {x y : Int} (hx : Sm x) (hy : Sm y) : keyOf Tryd.prog 45 (.agg #[.int .i64 x, .int .i64 y]) = some (klP x y) :=
  WideMaps.keyOf_pair arrP Tryd.underlying3 sizeP (wf_i64 (z := x) (by have := hx.1; omega) (by have := hx.2; omega)) (wf_i64 (z := y) (by have := hy.1; omega) (by have := hy.2; omega))
theorem klP_inj {x y u v : Int} (hx : Sm x) (hy : Sm y) (hu : Sm u) (hv : Sm v) (h : klP x y = klP u v) : x = u ∧ y = v := by
  have e := lawP.inj (keyP hx hy) (h ▸ keyP hu hv)
  injection e with e
  have e1 := congrArg Array.toList e
  simp at e1
  exact e1
/-- The map of Meet after k places, and what stands for them. -/
structure MpM (p q : List Int) (k : Nat) (D : DataW Unit) (cur : List Int) : Prop where
  has : ∀ x y, Sm x → Sm y → (Maps.has D (klP x y) = true ↔ ∃ i, i < k ∧ M.gz p i = x ∧ M.gz q i = y)
  at_ : ∀ i, i < k → ∃ j : Nat, D.atKey (klP (M.gz p i) (M.gz q i)) (.lit (.int .i64 0)) = .lit (.int .i64 j) ∧ j < k ∧ M.gz p j = M.gz p i ∧ M.gz q j = M.gz q i ∧ M.gz cur i = j
def SmL (p q : List Int) : Prop := ∀ i, i < p.length → Sm (M.gz p i) ∧ Sm (M.gz q i)
theorem MpM.start (p q cur : List Int) : MpM p q 0 (.map []) cur :=
  ⟨fun x y _ _ => ⟨fun h => absurd h (by show ¬ (false = true); simp), fun ⟨i, hi, _⟩ => absurd hi (by omega)⟩, fun i hi => absurd hi (by omega)⟩
theorem MpM.old {p q cur : List Int} {k : Nat} {D : DataW Unit} {c : Int} (h : MpM p q k D cur) (hk : k < p.length) (hc : k < cur.length) (hh : Maps.has D (klP (M.gz p k) (M.gz q k)) = true) (hs : SmL p q)
    (hat : D.atKey (klP (M.gz p k) (M.gz q k)) (.lit (.int .i64 0)) = .lit (.int .i64 c)) : MpM p q (k + 1) D (cur.set k c) ∧ 0 ≤ c ∧ c < k := by
  obtain ⟨i0, h1, h2, h3⟩ := (h.has _ _ (hs k hk).1 (hs k hk).2).1 hh
  obtain ⟨j, e, hj, e1, e2, _⟩ := h.at_ i0 h1
  rw [h2, h3, hat] at e
  have ec : c = j := by injection e with e; injection e
  subst ec
  refine ⟨⟨fun x y hx hy => ?_, fun i hi => ?_⟩, by omega, by omega⟩
  · rw [h.has x y hx hy]
    constructor
    · rintro ⟨i, hi, e⟩; exact ⟨i, by omega, e⟩
    · rintro ⟨i, hi, e3, e4⟩
      rcases Nat.lt_or_ge i k with h4 | h4
      · exact ⟨i, h4, e3, e4⟩
      · have : i = k := by omega
        subst this
        exact ⟨i0, h1, by rw [h2, e3], by rw [h3, e4]⟩
  · rw [M.gz_set hc]
    rcases Nat.lt_or_ge i k with h4 | h4
    · obtain ⟨j', a, b, c, d, e⟩ := h.at_ i h4
      exact ⟨j', a, by omega, c, d, by rw [if_neg (by omega)]; exact e⟩
    · have : i = k := by omega
      subst this
      exact ⟨j, hat, by omega, by rw [e1, h2], by rw [e2, h3], by rw [if_pos rfl]⟩
theorem MpM.new {p q cur : List Int} {k : Nat} {D : DataW Unit} (h : MpM p q k D cur) (ht : Tidy D) (hk : k < p.length) (hc : k < cur.length) (hh : Maps.has D (klP (M.gz p k) (M.gz q k)) = false) (hs : SmL p q) :
    MpM p q (k + 1) (D.put (klP (M.gz p k) (M.gz q k)) (.lit (.int .i64 k))) (cur.set k k) := by
  have hno : ∀ i, i < k → ¬ (M.gz p i = M.gz p k ∧ M.gz q i = M.gz q k) := fun i hi e => by
    have := (h.has _ _ (hs k hk).1 (hs k hk).2).2 ⟨i, hi, e⟩
    rw [hh] at this; cases this
  have hkey : WideAt.IsKeyLit (klP (M.gz p k) (M.gz q k)) := lawP.key (keyP (hs k hk).1 (hs k hk).2)
  refine ⟨fun x y hx hy => ?_, fun i hi => ?_⟩
  · by_cases e : x = M.gz p k ∧ y = M.gz q k
    · obtain ⟨rfl, rfl⟩ := e
      rw [has_put_same ht.isMap hkey]
      exact ⟨fun _ => ⟨k, by omega, rfl, rfl⟩, fun _ => rfl⟩
    · rw [has_put_other (fun e1 => e (klP_inj hx hy (hs k hk).1 (hs k hk).2 e1)), h.has x y hx hy]
      constructor
      · rintro ⟨i, hi, e⟩; exact ⟨i, by omega, e⟩
      · rintro ⟨i, hi, e3, e4⟩
        rcases Nat.lt_or_ge i k with h4 | h4
        · exact ⟨i, h4, e3, e4⟩
        · have : i = k := by omega
          subst this
          exact absurd ⟨e3.symm, e4.symm⟩ e
  · rw [M.gz_set hc]
    rcases Nat.lt_or_ge i k with h4 | h4
    · obtain ⟨j', a, b, c, d, e⟩ := h.at_ i h4
      refine ⟨j', ?_, by omega, c, d, by rw [if_neg (by omega)]; exact e⟩
      rw [atKey_put_other fun e1 => hno i h4 (klP_inj (hs i (by omega)).1 (hs i (by omega)).2 (hs k hk).1 (hs k hk).2 e1), a]
    · have : i = k := by omega
      subst this
      exact ⟨i, atKey_put_same ht.isMap hkey _ _, by omega, rfl, rfl, by rw [if_pos rfl]⟩
theorem MpM.got {p q : List Int} {k : Nat} {D : DataW Unit} {c : Int} (ht : Tidy D) (hk : k < p.length) (hs : SmL p q)
    (hat : (D.put (klP (M.gz p k) (M.gz q k)) (.lit (.int .i64 k))).atKey (klP (M.gz p k) (M.gz q k)) (.lit (.int .i64 0)) = .lit (.int .i64 c)) : c = k := by
  rw [atKey_put_same ht.isMap (lawP.key (keyP (hs k hk).1 (hs k hk).2))] at hat
  injection hat with hat
  injection hat with _ hat
  exact hat.symm
theorem MpM.fin {p q cur : List Int} {D : DataW Unit} (h : MpM p q p.length D cur) (ht : M.Two p q) (hl : cur.length = p.length) : M.ofL cur = M.meet p q := by
  refine ht.meet_of hl fun i j hi hj => ?_
  obtain ⟨a, a1, _, a2, a3, a4⟩ := h.at_ i hi
  obtain ⟨b, b1, _, b2, b3, b4⟩ := h.at_ j hj
  rw [a4, b4]
  constructor
  · intro e
    have : a = b := by omega
    subst this
    exact ⟨by rw [← a2, ← b2], by rw [← a3, ← b3]⟩
  · rintro ⟨e1, e2⟩
    rw [e1, e2, b1] at a1
    injection a1 with a1
    injection a1 with _ a1
    exact a1.symm
theorem MpM.vals {p q cur : List Int} {D : DataW Unit} (h : MpM p q p.length D cur) (hl : cur.length = p.length) (hm : p.length ≤ 256) : M.I64 cur := by
  intro z hz
  obtain ⟨i, hi, rfl⟩ := M.mem_gz hz
  obtain ⟨j, _, hj, _, _, e⟩ := h.at_ i (by omega)
  omega
theorem Two.small {p q : List Int} (h : M.Two p q) : SmL p q := fun i hi => by
  have h1 := M.vd_gz h.left hi
  have h2 := M.vd_gz h.right (i := i) (by have := h.same; omega)
  have := h.most
  have := h.same
  exact ⟨⟨h1.1, by omega⟩, ⟨h2.1, by omega⟩⟩

set_option maxRecDepth 100000 in
set_option maxHeartbeats 1000000 in
theorem meet_in (A B : Option Addr) (c d : Nat) (p q : List Int) (w : World) (hp : Rd w A p) (hq : Rd w B q) (h : M.both p q = 0) :
    Calls Tryd.prog 16 #[.slice A p.length c, .slice B q.length d] w (Made w (M.meet p q) 0) := by
  have C1 := both_any A B c d p q w hp hq
  rw [h] at C1
  have HT := Lib.hid (M.both_zero h)
  have HS := Lib.hid (Two.small HT.out)
  have h1 : p.length ≤ 256 := HT.out.most
  have HE := Lib.hid HT.out.same
  clear h
  have hmm := @run_makeMap Tryd.prog
  go_enter Tryd.func16, Tryd.ntmps16
  go_wp2_with fail
  refine C1.mono ?_
  rintro e w0 ⟨rfl, hb0⟩
  have hs0 := hb0.size
  go_wp2_with (refine wpList_make_ints _ rfl _ _ rfl _ p.length rfl rfl rfl (by omega) ?_)
  intro w1 hB1 hb1
  have hmap0 : w1.ownsMap Tryd.prog 45 (plainElem (H := Unit) Tryd.prog 3) w0.heap.size 0 (.map []) := by
    obtain ⟨es, cl, h1, h2⟩ := World.ownsMap_made (H := Unit) w0 Tryd.prog 45 (plainElem (H := Unit) Tryd.prog 3)
    exact ⟨es, cl, (hb1.block _ (by simp)).trans h1, h2⟩
  have hbw1 : Below w.heap.size w w1 := (hb0.alloc hs0 _).trans (hb1.mono (by first | omega | (simp; omega)))
  have hown1 := hB1.out.own (B := w0.heap.size + 1) (n := p.length) (by simp) (by simp) (by unfold maxLen; omega)
  have esz : (w0.alloc (.map #[] 0)).heap.size = w0.heap.size + 1 := by simp
  try rw [esz] at hown1
  try rw [esz]
  obtain ⟨b, hbm⟩ : ∃ b, w0.heap.size = b := ⟨_, rfl⟩
  obtain ⟨g, hg⟩ : ∃ g, b + 1 = g := ⟨_, rfl⟩
  rw [hbm] at hown1 hmap0
  try rw [hbm]
  rw [hg] at hown1
  try rw [hg]
  have hgB : w.heap.size ≤ b := by omega
  obtain ⟨cur0, hcur0⟩ : ∃ cur0, List.replicate p.length (0 : Int) = cur0 := ⟨_, rfl⟩
  rw [hcur0] at hown1
  clear hcur0 hB1 hb1 esz hs0 hb0 hbm
  go_wp2
  go_loopw [25] (fun i wr => ∃ (k : Nat) (D : DataW Unit) (cur : List Int), k ≤ p.length ∧ i = .int .i64 k ∧ wr.ownsMap Tryd.prog 45 (plainElem (H := Unit) Tryd.prog 3) b k D ∧ Hid (MpM p q k D cur) ∧
    wr.ownsRow g 3 1 (.slice (some ⟨g, 0, none⟩) p.length p.length) p.length (ints cur) ∧ Below w.heap.size w wr) (fun i _ => p.length - (intOf i).toNat)
  case atStart => exact ⟨0, _, cur0, Nat.zero_le _, rfl, hmap0, MpM.start _ _ _, hown1, hbw1⟩
  case round =>
    clear hmap0 hown1 hbw1
    obtain ⟨k, D, cur, hk, rfl, hmap, hD, hown, hbr⟩ := hrel
    by_cases hlt : k < p.length
    · obtain ⟨b1, o1, rfl⟩ := hp.opn (by omega)
      obtain ⟨b2, o2, rfl⟩ := hq.opn (by have := HE.out; omega)
      obtain ⟨x, hb1, hc1, hx⟩ := (hp.below hbr).cl hlt
      obtain ⟨y, hb2, hc2, hy⟩ := (hq.below hbr).cl (k := k) (by have := HE.out; omega)
      have hkq : (k : Int) < q.length := by have := HE.out; omega
      have hsz := hbr.size
      obtain ⟨hsx, hsy⟩ := HS.out k hlt
      rw [hx.out] at hsx
      rw [hy.out] at hsy
      have hkey := keyP hsx hsy
      obtain ⟨W, hW⟩ : ∃ W, Hid ((wr.alloc (.cells #[.int .i64 x, .int .i64 y] 45)).drew = W) := ⟨_, rfl⟩
      obtain ⟨pb, hpb⟩ : ∃ pb, Hid (wr.heap.size = pb) := ⟨_, rfl⟩
      have hv1 : W.cell? ⟨pb, 0, none⟩ = some (.int .i64 x) := by rw [← hW.out, ← hpb.out]; simp
      have hv2 : W.cell? ⟨pb, 1, none⟩ = some (.int .i64 y) := by rw [← hW.out, ← hpb.out]; simp
      have hWs : W.heap.size = pb + 1 := by rw [← hW.out, ← hpb.out]; simp
      have hbl : b < pb := by have := hmap.lt; have := hpb.out; omega
      have hmap' : W.ownsMap Tryd.prog 45 (plainElem (H := Unit) Tryd.prog 3) b k D := by rw [← hW.out]; exact hmap.alloc _
      have hown' : W.ownsRow g 3 1 (.slice (some ⟨g, 0, none⟩) p.length p.length) p.length (ints cur) := by rw [← hW.out]; exact hown.alloc _
      have hbr' : Below w.heap.size w W := by rw [← hW.out]; exact below_drewN' (hbr.alloc hsz _) 1
      have hcl := own_len hown
      obtain ⟨z, hcz, hfz, _⟩ := own_cl hown' hlt
      clear hmap hown hbr hsz
      go_wp2
      go_region
      try rw [hpb.out]
      rw [hW.out]
      clear hc1 hc2 hW
      by_cases hin : Maps.has D (klP x y) = true
      · have hold := fun c hat => hD.out.old (c := c) hlt (by rw [hcl]; exact hlt) (by rw [hx.out, hy.out]; exact hin) HS.out (by rw [hx.out, hy.out]; exact hat)
        have HO := Lib.hid hold
        clear hold hD
        go_wp2_with (first
          | (at_lookup; refine wpList_lookup_own_ok_int _ rfl _ _ 63 rfl 45 3 .i64 lawP Tryd.underlying63 Tryd.underlying3 (zeroI _) b k D rfl hmap' _ _ rfl hkey ?_; intro c2 hat hwc; clear hat hwc; rw [hin])
          | (at_lookup; refine wpList_lookup_own_int _ rfl _ _ 63 rfl 45 3 .i64 lawP Tryd.underlying63 Tryd.underlying3 (zeroI _) b k D rfl hmap' _ _ rfl hkey ?_; intro c2 hat hwc))
        obtain ⟨hM, hc0, hc1⟩ := HO.out _ hat
        go_roundw
        case rel =>
          exact ⟨k + 1, D, _, by omega, by go_num, (hmap'.mono (Nat.le_succ k)).kept (own_grown hown' k _) (by simp; omega), hM, own_set hown' k _, hbr'.setCell (by simp; omega) _⟩
        case measure => simp [intOf] <;> omega
      · have hin : Maps.has D (klP x y) = false := by simpa using hin
        have hM := hD.out.new (hmap'.tidy lawP) hlt (by rw [hcl]; exact hlt) (by rw [hx.out, hy.out]; exact hin) HS.out
        rw [hx.out, hy.out] at hM
        have HM := Lib.hid hM
        have hgot := fun c hat => MpM.got (p := p) (q := q) (k := k) (c := c) (hmap'.tidy lawP) hlt HS.out (by rw [hx.out, hy.out]; exact hat)
        have HG := Lib.hid hgot
        have hwm := wf_i64 (z := (k : Int)) (by omega) (by omega)
        clear hM hD hgot
        go_wp2_with (first
          | (at_lookup; refine wpList_lookup_own_ok_int _ rfl _ _ 63 rfl 45 3 .i64 lawP Tryd.underlying63 Tryd.underlying3 (zeroI _) b k D rfl hmap' _ _ rfl hkey ?_; intro c2 hat hwc; clear hat hwc; rw [hin])
          | (at_mapUpdate; refine wpList_mapUpdate_own _ rfl _ _ _ 63 rfl 45 3 lawP Tryd.underlying63 _ b k D rfl hmap' (by unfold maxLen; omega) _ _ _ rfl rfl hkey _ [] (plainElem_int Tryd.underlying3 hwm) ?_; intro w2 hmap2 hg2; have hown2 := hown'.kept hg2 (.inr (by simp [Value.ownBlock]; omega)); obtain ⟨z2, hcz2, hfz2, _⟩ := own_cl hown2 hlt; have hv3 := (hg2.cell_far ⟨pb, 0, none⟩ (by show pb < _; omega) (by simp; omega)).trans hv1; have hv4 := (hg2.cell_far ⟨pb, 1, none⟩ (by show pb < _; omega) (by simp; omega)).trans hv2)
          | (at_lookup; refine wpList_lookup_own_int _ rfl _ _ 63 rfl 45 3 .i64 lawP Tryd.underlying63 Tryd.underlying3 (zeroI _) b (k + 1) _ rfl hmap2 _ _ rfl hkey ?_; intro c2 hat hwc; obtain rfl := HG.out _ hat; clear hat hwc))
        have hbr2 : Below w.heap.size w w2 := hbr'.grown hg2 hbr'.size (fun j hj => by cases hj; exact hgB)
        go_roundw
        case rel =>
          exact ⟨k + 1, _, _, by omega, by go_num, hmap2.kept (own_grown hown2 k _) (by simp; omega), HM, own_set hown2 k _, hbr2.setCell (by simp; omega) _⟩
        case measure => simp [intOf] <;> omega
    · have : k = p.length := by omega
      subst this
      have hcl := own_len hown
      have C := of_at (some ⟨g, 0, none⟩) p.length p.length cur wr (Rd.of_own hown) hcl h1 (hD.out.vals hcl h1)
      rw [hD.out.fin HT.out hcl] at C
      clear hD
      go_wp2_with fail
      refine C.mono ?_
      rintro e2 w4 ⟨A4, rfl, hr4, hb4⟩
      go_wp2
      go_ret2
      exact ⟨A4, rfl, hr4, below_next hbr hb4⟩
end Go.Proofs.YtnhibkkkpmaddaaDoor
