/-
  Several texts in one: Wh0, Wj1. No statement is proved here.
-/
import Derived.Test.YtnodnfailjmpeaaWd0
import Derived.Test.YtnodnfailjmpeaaWcZ
import Derived.Test.YtnodnfailjmpeaaWj0
import Derived.Test.YtnodnfailjmpeaaSMc9
import Derived.Test.YtnodnfailjmpeaaSwZ
import Derived.Deep.RegionHeld3
import Derived.Deep.CutRange
import Derived.BigQuiet
namespace Go.Proofs.Ytnodnfailjmpeaa
open Go.RowKit
open Mc (Ed Ma)

abbrev set3 (w : World) (g : Nat) (x y v : Value) : World := ((w.setCell ⟨g, 0, none⟩ x).setCell ⟨g, 1, none⟩ y).setCell ⟨g, 2, none⟩ v
theorem BxM.set3 {w : World} {g n c n' c' : Nat} {i o i' o' : Int} {A A' : Option Addr} (h : BxM w g i o A n c) : BxM (set3 w g (.int .i64 i') (.int .i64 o') (.slice A' n' c')) g i' o' A' n' c' := by
  unfold BxM at h ⊢
  simp [World.setCell, Array.getElem?_modify, h]
theorem below_set3 {a w : World} {B g : Nat} (h : Below B a w) (hB : B ≤ g) (x y v : Value) : Below B a (set3 w g x y v) :=
  ((h.setCell (p := ⟨g, 0, none⟩) hB _).setCell (p := ⟨g, 1, none⟩) hB _).setCell (p := ⟨g, 2, none⟩) hB _
theorem Bld.set3 {w : World} {base g : Nat} {V : Value} {rs : List (List Ed)} {vs : List Value} (h : Bld w base V rs vs) (hg : g < base) (x y v : Value) : Bld (set3 w g x y v) base V rs vs :=
  ((h.kept (grown_setCell w ⟨g, 0, none⟩ x) hg).kept (grown_setCell _ ⟨g, 1, none⟩ y) hg).kept (grown_setCell _ ⟨g, 2, none⟩ v) hg
theorem Bld.two {w : World} {base : Nat} {B : Option Addr} {rs : List (List Ed)} {vs : List Value} {n c : Nat} (h : Bld w base (.slice B n c) rs vs) : RdR w B rs := by
  obtain ⟨A', c', e1, _, _, _, hr'⟩ := h.rd
  injection e1 with e1
  subst e1
  exact hr'
abbrev zM : Obj := .cells #[.int .i64 0, .int .i64 0, .slice none 0 0] 24
theorem bA {w w' : World} (h : Below w.heap.size w w') (o : Obj) : Below w.heap.size w (w'.alloc o) := h.alloc h.size o
theorem bD {w w' : World} (h : Below w.heap.size w w') : Below w.heap.size w w'.drew := h.drew
theorem bS {w w' : World} (h : Below w.heap.size w w') {g j : Nat} (hg : w.heap.size ≤ g) (v : Value) : Below w.heap.size w (w'.setCell ⟨g, j, none⟩ v) := h.setCell (p := ⟨g, j, none⟩) hg v
/-- Between a mark and the end of an older world nothing has changed. -/
structure Mid (base : Nat) (a w : World) : Prop where
  sz : a.heap.size ≤ w.heap.size
  eq : ∀ b, base ≤ b → b < a.heap.size → w.heap[b]? = a.heap[b]?
section
variable {base : Nat} {a w w' : World}
theorem Mid.refl (base : Nat) (a : World) : Mid base a a := ⟨Nat.le_refl _, fun _ _ _ => rfl⟩
theorem Mid.alloc (h : Mid base a w) (o : Obj) : Mid base a (w.alloc o) := ⟨by have := h.sz; simp; omega, fun b h1 h2 => (Below.heap_alloc _ _ _ (by have := h.sz; omega)).trans (h.eq b h1 h2)⟩
theorem Mid.drew (h : Mid base a w) : Mid base a w.drew := ⟨h.sz, h.eq⟩
theorem Mid.next (h : Mid base a w) (k : Below w.heap.size w w') : Mid base a w' := ⟨Nat.le_trans h.sz k.size, fun b h1 h2 => (k.block b (by have := h.sz; omega)).trans (h.eq b h1 h2)⟩
theorem Mid.set (h : Mid base a w) {p : Addr} (hg : p.block < base ∨ a.heap.size ≤ p.block) (v : Value) : Mid base a (w.setCell p v) := ⟨by simpa [World.setCell] using h.sz, fun b h1 h2 => (Below.heap_setCell _ _ _ _ (by omega)).trans (h.eq b h1 h2)⟩
theorem Mid.set3 (h : Mid base a w) {g : Nat} (hg : g < base ∨ a.heap.size ≤ g) (x y v : Value) : Mid base a (Go.Proofs.Ytnodnfailjmpeaa.set3 w g x y v) := ((h.set (p := ⟨g, 0, none⟩) hg x).set (p := ⟨g, 1, none⟩) hg y).set (p := ⟨g, 2, none⟩) hg v
theorem ownsRow_mid {e : TypeId} {s n : Nat} {v : Value} {xs : List Value} (h : a.ownsRow base e s v n xs) (m : Mid base a w) : w.ownsRow base e s v n xs := by
  refine ⟨h.1, ?_⟩
  rcases h.2 with h0 | ⟨g, cap, cur, e1, hb, hg, rest⟩
  · exact .inl h0
  · exact .inr ⟨g, cap, cur, e1, hb, (m.eq g hb (heap_lt hg)).trans hg, rest⟩
theorem Bld.mid {V : Value} {rs : List (List Ed)} {vs : List Value} (h : Bld a base V rs vs) (m : Mid base a w) : Bld w base V rs vs :=
  ⟨ownsRow_mid h.1 m, fun k row hk => by
    obtain ⟨g, c, h1, h2⟩ := h.2 k row hk
    exact ⟨g, c, h1, ownsRow_mid h2 m⟩⟩
end
section
variable {w w' : World} {g G n c : Nat} {i o : Int} {A : Option Addr}
theorem BxM.al (h : BxM w g i o A n c) (ob : Obj) : BxM (w.alloc ob) g i o A n c := (Below.heap_alloc _ _ _ (heap_lt h)).trans h
theorem BxM.to (h : BxM w g i o A n c) (k : Below w.heap.size w w') : BxM w' g i o A n c := (k.block _ (heap_lt h)).trans h
theorem BxM.newB2 (w : World) (ob : Obj) (i o : Int) (A : Option Addr) (n c : Nat) : BxM ((w.alloc ob).alloc (.cells #[.int .i64 i, .int .i64 o, .slice A n c] 24)) (w.heap.size + 1) i o A n c := by
  have h := heap_alloc_new (w.alloc ob) (.cells #[.int .i64 i, .int .i64 o, .slice A n c] 24)
  rw [World.size_alloc] at h
  exact h
theorem BxM.newS (w : World) (h : Nat) (x y v : Value) (i o : Int) (A : Option Addr) (n c : Nat) : BxM ((Go.Proofs.Ytnodnfailjmpeaa.set3 w h x y v).alloc (.cells #[.int .i64 i, .int .i64 o, .slice A n c] 24)) w.heap.size i o A n c := by
  have e : (Go.Proofs.Ytnodnfailjmpeaa.set3 w h x y v).heap.size = w.heap.size := by simp [World.setCell]
  have h := heap_alloc_new (Go.Proofs.Ytnodnfailjmpeaa.set3 w h x y v) (.cells #[.int .i64 i, .int .i64 o, .slice A n c] 24)
  rw [e] at h
  exact h
theorem BxM.toD (h : BxM w g i o A n c) (k : Below w.drew.heap.size w.drew w') : BxM w' g i o A n c := (k.block _ (heap_lt h)).trans h
/-- What a box of the call's own holds, and that it may be written. -/
theorem BxM.all (h : BxM w g i o A n c) : (w.cell? ⟨g, 0, none⟩ = some (.int .i64 i) ∧ w.cell? ⟨g, 1, none⟩ = some (.int .i64 o) ∧ w.cell? ⟨g, 2, none⟩ = some (.slice A n c)) ∧ (w.frozen? ⟨g, 0, none⟩ = false ∧ w.frozen? ⟨g, 1, none⟩ = false ∧ w.frozen? ⟨g, 2, none⟩ = false) ∧ g < w.heap.size := ⟨h.cells, h.frozen, heap_lt h⟩
theorem BxM.far3 (h : BxM w g i o A n c) (hne : g ≠ G) (x y v : Value) : BxM (Go.Proofs.Ytnodnfailjmpeaa.set3 w G x y v) g i o A n c := (Below.heap_setCell _ _ _ _ hne).trans ((Below.heap_setCell _ _ _ _ hne).trans ((Below.heap_setCell _ _ _ _ hne).trans h))
theorem BxM.new1 (w : World) : BxM (w.alloc zM) w.heap.size 0 0 none 0 0 := heap_alloc_new w _
theorem BxM.new2 (w : World) (ob : Obj) : BxM ((w.alloc ob).alloc zM) (w.heap.size + 1) 0 0 none 0 0 := by
  have h := heap_alloc_new (w.alloc ob) zM
  rw [World.size_alloc] at h
  exact h
end
/-- What Of hands back, in memory of its own, in the words of a walk. -/
theorem mofB_at (a b d : Int) (p : Bool) (A : Option Addr) (c : Nat) (es : List Int) (n i o : Nat) (w : World) (hr : Rd16 w A es) (hl : es.length ≤ 9223372036854775807) (ha : 0 ≤ a ∧ a ≤ 255) (hb : 0 ≤ b ∧ b ≤ 255) (hd : 0 ≤ d ∧ d ≤ 255)
    (hn : 1 + a % 6 = n) (hi : 1 + b % 3 = i) (ho : 1 + d % 3 = o) :
    Calls Try.prog 37 #[.agg #[.int .u8 a, .int .u8 b, .int .u8 d, .bool p, .slice A es.length c]] w fun e w' => ∃ B k vs, e = .returned (.agg #[.int .i64 i, .int .i64 o, .slice B n k]) ∧ Hid (Bld w' w.heap.size (.slice B n k) (Mc.mkN p n i o es).r vs) ∧ Below w.heap.size w w' := by
  refine (mof_any a b d p A c es n i o w hr hl ha hb hd hn hi ho).mono ?_
  rintro e w' ⟨V, vs, rfl, hB, hbl⟩
  obtain ⟨B, k, rfl, _, _, _, hrd⟩ := hB.out.rd
  rw [Mc.mkN_len] at hB ⊢
  exact ⟨B, k, vs, rfl, hB, hbl⟩
/-- What is known behind the two machines that are made. -/
structure SmR (w : World) (a b : Ma) (G H : Nat) (R S : Option Addr) (n m c d : Nat) (i o i' o' : Int) (wx : World) : Prop where
  ne : G ≠ H
  bg : BxM wx G i o R n c
  bh : BxM wx H i' o' S m d
  ra : RdR wx R a.r
  rb : RdR wx S b.r
  bel : Below w.heap.size w wx

end Go.Proofs.Ytnodnfailjmpeaa

namespace Go.Proofs.Ytnodnfailjmpeaa
open Go.RowKit
open Mc (Ed Ma)

/-- No two rows lie in one block. -/
def Dst (vs : List Value) : Prop := ∀ (j k : Nat) (u v : Value), j < k → vs[j]? = some u → vs[k]? = some v → u.ownBlock ≠ v.ownBlock
theorem Dst.nil_ : Dst [] := fun j k u v _ h _ => by simp at h
theorem Dst.push {vs : List Value} {v : Value} (h : Dst vs) (hv : ∀ (j : Nat) (u : Value), vs[j]? = some u → u.ownBlock ≠ v.ownBlock) : Dst (vs ++ [v]) := fun j k u x hjk hj hk => by
  rw [List.getElem?_append] at hk
  split at hk
  · rename_i hlt
    rw [List.getElem?_append_left (by omega)] at hj
    exact h j k u x hjk hj hk
  · rename_i hge
    have hk0 : k - vs.length = 0 := by
      rcases Nat.eq_zero_or_pos (k - vs.length) with h0 | h0
      · exact h0
      · rw [List.getElem?_eq_none (by simp; omega)] at hk; cases hk
    rw [hk0] at hk
    simp at hk
    subst hk
    rw [List.getElem?_append_left (by omega)] at hj
    exact hv j u hj
namespace Mc
theorem eC_to : ∀ (row : List Ed) (k : Nat) (x : Ed) (y : Int), row[k]? = some x → (eC row).set (k * 2) (.int .i64 y) = eC (row.set k (y, x.2))
  | [], k, x, y, h => by simp at h
  | a :: row, 0, x, y, h => by
    simp at h
    subst h
    simp [eC]
  | a :: row, k + 1, x, y, h => by
    have ih := eC_to row k x y (by simpa using h)
    rw [List.set_cons_succ]
    have e1 : ∀ (r : List Ed), eC (a :: r) = .int .i64 a.1 :: .int .i64 a.2 :: eC r := fun r => by simp [eC]
    rw [e1, e1, ← ih, show (k + 1) * 2 = k * 2 + 1 + 1 by omega, List.set_cons_succ, List.set_cons_succ]
end Mc
/-- The target of an edge is written. -/
theorem OwR.setTo {w : World} {base g c k : Nat} {row : List Ed} {x : Ed} {y : Int} (h : OwR w base (.slice (some ⟨g, 0, none⟩) row.length c) row) (hk : row[k]? = some x) :
    OwR (w.setCell ⟨g, k * 2, none⟩ (.int .i64 y)) base (.slice (some ⟨g, 0, none⟩) (row.set k (y, x.2)).length c) (row.set k (y, x.2)) := by
  have hl : (row.set k (y, x.2)).length = row.length := List.length_set
  rcases h.2 with ⟨e, _⟩ | ⟨g', c', cur, e, hb, hg, hc, hm, hs, ht⟩
  · cases e
  · injection e with e1 e2 e3
    injection e1 with e1
    injection e1 with e1
    subst e1 e3
    refine ⟨by rw [eC_len], .inr ⟨g, c, cur.setIfInBounds (k * 2) (.int .i64 y), rfl, hb, by simp [World.setCell, Array.getElem?_modify, hg], by omega, hm, by simpa using hs, ?_⟩⟩
    rw [hl, ← Mc.eC_to row k x y hk, ← ht]
    simp only [Array.toList_setIfInBounds]
    rw [List.take_set]
theorem Bld.setTo {w : World} {base g c s k : Nat} {V : Value} {rs : List (List Ed)} {vs : List Value} {row : List Ed} {x : Ed} {y : Int} (h : Bld w base V rs vs) (hd : Dst vs) (hs : rs[s]? = some row) (hk : row[k]? = some x) (hv : vs[s]? = some (.slice (some ⟨g, 0, none⟩) row.length c)) :
    Bld (w.setCell ⟨g, k * 2, none⟩ (.int .i64 y)) base V (rs.set s (row.set k (y, x.2))) vs := by
  obtain ⟨g', c', h1, h2⟩ := h.2 s row hs
  rw [hv] at h1
  injection h1 with h1
  injection h1 with h1 _ h3
  injection h1 with h1
  injection h1 with h1
  subst h1 h3
  have hsl := (List.getElem?_eq_some_iff.1 hs).1
  have hne : ∀ {v : Value} {e : TypeId} {sz n : Nat} {xs : List Value}, w.ownsRow base e sz v n xs → (v.ownBlock = none ∨ v.ownBlock ≠ some g) → (w.setCell ⟨g, k * 2, none⟩ (.int .i64 y)).ownsRow base e sz v n xs := fun h0 h1 =>
    h0.kept (grown_setCell w ⟨g, k * 2, none⟩ _) h1
  have hV : V.ownBlock = none ∨ V.ownBlock ≠ some g := by
    have := own_apart h2 h.1 (show (26 : TypeId) ≠ 28 by decide)
    rcases this with h0 | h0
    · cases h0
    · exact Or.inr (Ne.symm h0)
  have hO := hne h.1 hV
  refine ⟨by rw [List.length_set]; exact hO, fun j r hj => ?_⟩
  by_cases hjs : j = s
  · subst hjs
    rw [List.getElem?_set_self hsl] at hj
    injection hj with hj
    subst hj
    exact ⟨g, c, by rw [List.length_set]; exact hv, h2.setTo hk⟩
  · rw [List.getElem?_set_ne (Ne.symm hjs)] at hj
    obtain ⟨g', c', h3, h4⟩ := h.2 j r hj
    refine ⟨g', c', h3, hne h4 (Or.inr fun e => ?_)⟩
    rcases Nat.lt_or_gt_of_ne hjs with h5 | h5
    · exact hd j s _ _ h5 h3 hv e
    · exact hd s j _ _ h5 hv h3 e.symm
/-- Where an edge of the rows lies. -/
theorem Bld.place {w : World} {base s k n c : Nat} {A : Option Addr} {rs : List (List Ed)} {vs : List Value} {row : List Ed} {x : Ed} (h : Bld w base (.slice A n c) rs vs) (hs : rs[s]? = some row) (hk : row[k]? = some x) :
    ∃ p g cc, A = some ⟨p, 0, none⟩ ∧ base ≤ p ∧ base ≤ g ∧ p ≠ g ∧ w.cell? ⟨p, s, none⟩ = some (.slice (some ⟨g, 0, none⟩) row.length cc) ∧
      w.cell? ⟨g, k * 2, none⟩ = some (.int .i64 x.1) ∧ w.frozen? ⟨g, k * 2, none⟩ = false ∧ Hid (vs[s]? = some (.slice (some ⟨g, 0, none⟩) row.length cc)) := by
  have hkl : k < row.length := (List.getElem?_eq_some_iff.1 hk).1
  have hsl : s < rs.length := (List.getElem?_eq_some_iff.1 hs).1
  obtain ⟨g, cc, h1, h2⟩ := h.2 s row hs
  have ha := own_apart h2 h.1 (show (26 : TypeId) ≠ 28 by decide)
  rcases h.1.2 with ⟨e, h0⟩ | ⟨p, cap, cur, hv, hb, hg, hc, hm, hsz, ht⟩
  · omega
  · injection hv with hv1 hv2 hv3
    subst hv1 hv3
    have hpg : p ≠ g := fun e => by
      rcases ha with h0 | h0
      · cases h0
      · exact h0 (by rw [e]; rfl)
    rcases h2.2 with ⟨e, _⟩ | ⟨g', cap', cu, hv, hb2, hg2, hc2, hm2, hsz2, ht2⟩
    · cases e
    · injection hv with hv1 hv2 hv3
      injection hv1 with hv1
      injection hv1 with hv1
      subst hv1 hv3
      have hcell := h.1.cells (g := p) rfl s _ h1
      rw [Addr.add_lit] at hcell
      obtain ⟨e1, e2⟩ := eC_at hk
      have c1 := h2.cells (g := g) rfl _ _ e1
      rw [Addr.add_lit] at c1
      exact ⟨p, g, cc, rfl, hb, hb2, hpg, by simpa using hcell, by simpa using c1, by simp [World.frozen?, hg2], h1⟩
theorem Bld.placeP {w : World} {base s k n c p : Nat} {rs : List (List Ed)} {vs : List Value} {row : List Ed} {x : Ed} (h : Bld w base (.slice (some ⟨p, 0, none⟩) n c) rs vs) (hs : rs[s]? = some row) (hk : row[k]? = some x) :
    ∃ g cc, base ≤ p ∧ base ≤ g ∧ p ≠ g ∧ w.cell? ⟨p, s, none⟩ = some (.slice (some ⟨g, 0, none⟩) row.length cc) ∧
      w.cell? ⟨g, k * 2, none⟩ = some (.int .i64 x.1) ∧ w.frozen? ⟨g, k * 2, none⟩ = false ∧ Hid (vs[s]? = some (.slice (some ⟨g, 0, none⟩) row.length cc)) := by
  obtain ⟨p', g, cc, e, h1, h2, h3, h4, h5, h6, h7⟩ := h.place hs hk
  injection e with e
  injection e with e
  subst e
  exact ⟨g, cc, h1, h2, h3, h4, h5, h6, h7⟩
theorem divI {k i : Nat} : ((k : Int)).tdiv (i : Int) = ((k / i : Nat) : Int) := by rw [Int.tdiv_eq_ediv_of_nonneg (by omega)]; simp
theorem modI {k i : Nat} : ((k : Int)).tmod (i : Int) = ((k % i : Nat) : Int) := by rw [Int.tmod_eq_emod_of_nonneg (by omega)]; simp
set_option maxRecDepth 100000 in
theorem num_any (A : Option Addr) (c k : Nat) (es : List Int) (w : World) (hr : Rd16 w A es) :
    Calls Try.prog 76 #[.slice A es.length c, .int .i64 k] w fun e w' => ∃ z, e = .returned (.int .i64 z) ∧ 0 ≤ z ∧ z ≤ 65535 ∧ Below w.heap.size w w' := by
  go_enter Try.func76, Try.ntmps76
  by_cases hk : k < es.length
  · obtain ⟨b, off, z, rfl, _, hc, h0, h1, _⟩ := hr.at_ hk
    have hk' : (k : Int) < es.length := by omega
    go_wp2
    go_ret
    exact ⟨z, rfl, h0, h1, Below.refl _ _⟩
  · have hk' : ¬ (k : Int) < es.length := by omega
    go_wp2
    go_ret
    exact ⟨0, rfl, by omega, by omega, Below.refl _ _⟩
/-- The boxes of the call. -/
abbrev boxK (w : World) (a b d : Int) (T : Option Addr) (tl tc : Nat) (A : Option Addr) (el ec : Nat) : World :=
  (w.alloc (.cells #[.int .u8 a, .int .u8 b, .int .u8 d, .slice T tl tc, .slice A el ec] 43)).alloc (.cells #[.int .i64 0, .int .i64 0, .slice none 0 0] 24)
theorem boxK_cells {w wr : World} {a b d : Int} {T A : Option Addr} {tl tc el ec : Nat} (h : Below (w.heap.size + 2) (boxK w a b d T tl tc A el ec) wr) :
    wr.cell? ⟨w.heap.size, 3, none⟩ = some (.slice T tl tc) ∧ wr.cell? ⟨w.heap.size, 4, none⟩ = some (.slice A el ec) := by
  refine ⟨?_, ?_⟩
  · rw [h.cell (p := ⟨w.heap.size, 3, none⟩) (by simp), World.cell?_alloc_past _ _ _ (by simp), World.cell?_alloc_at _ _ _ _ rfl]; rfl
  · rw [h.cell (p := ⟨w.heap.size, 4, none⟩) (by simp), World.cell?_alloc_past _ _ _ (by simp), World.cell?_alloc_at _ _ _ _ rfl]; rfl
theorem boxK_below {w wr : World} {a b d : Int} {T A : Option Addr} {tl tc el ec : Nat} (h : Below (w.heap.size + 2) (boxK w a b d T tl tc A el ec) wr) : Below w.heap.size w wr := (((Below.refl _ _).alloc (Nat.le_refl _) _).alloc (by simp) _).trans (h.mono (by omega))
theorem own_formJ {w : World} {base : Nat} {v : Value} {x : List Int} (h : OwI w base v x) (hp : 0 < x.length) : ∃ g c, v = .slice (some ⟨g, 0, none⟩) x.length c := by
  rcases h.2 with ⟨_, h0⟩ | ⟨g, c, cu, e, _⟩
  · omega
  · exact ⟨g, c, e⟩
/-- What Of hands back. -/
def CofP (w : World) (n i o : Nat) (e : Ending) (w' : World) : Prop := ∃ m B k, e = .returned (.agg #[.int .i64 i, .int .i64 o, .slice B n k]) ∧ Hid (Mc.Cm n i o m) ∧ RdR w' B m.r ∧ Below w.heap.size w w'
/-- The same, and that the rows are the call's own. -/
def CofB (w : World) (n i o : Nat) (e : Ending) (w' : World) : Prop := ∃ m B k vs, e = .returned (.agg #[.int .i64 i, .int .i64 o, .slice B n k]) ∧ Hid (Mc.Cm n i o m) ∧ Hid (Bld w' w.heap.size (.slice B n k) m.r vs) ∧ Below w.heap.size w w'
set_option maxRecDepth 100000 in
set_option maxHeartbeats 4000000 in
theorem cof_own (a b d : Int) (T : Option Addr) (tc : Nat) (ts : List Int) (A : Option Addr) (c : Nat) (es : List Int) (n i o : Nat) (w : World) (hr8 : Rd8 w T ts) (hr : Rd16 w A es) (htl : ts.length ≤ 9223372036854775807) (ha : 0 ≤ a ∧ a ≤ 255) (hb : 0 ≤ b ∧ b ≤ 255) (hd : 0 ≤ d ∧ d ≤ 255)
    (hn : 1 + a % 6 = n) (hi : 1 + b % 3 = i) (ho : 1 + d % 3 = o) :
    Calls Try.prog 47 #[.agg #[.int .u8 a, .int .u8 b, .int .u8 d, .slice T ts.length tc, .slice A es.length c]] w (CofB w n i o) := by
  have n1 : 1 ≤ n := by omega
  have n2 : n ≤ 6 := by omega
  have i1 : 1 ≤ i := by omega
  have i2 : i ≤ 3 := by omega
  have o1 : 1 ≤ o := by omega
  have o2 : o ≤ 3 := by omega
  obtain ⟨a1, a2⟩ := ha
  obtain ⟨b1, b2⟩ := hb
  obtain ⟨d1, d2⟩ := hd
  obtain ⟨k0, hk0, hk1, hk2, hk3⟩ := info_parts edge_info
  obtain ⟨r0, hr0, hr1, hr2, hr3⟩ := info_parts row_info
  have CN := fun (k : Nat) w h => num_any A c k es w h
  have HR := Lib.hid hr
  have HR8 := Lib.hid hr8
  have HI := Lib.hid (And.intro i1 i2)
  have HNn := Lib.hid (And.intro n1 n2)
  have HOo := Lib.hid (And.intro o1 o2)
  clear hr hr8
  obtain ⟨F, hF⟩ : ∃ F, es.length = F := ⟨_, rfl⟩
  obtain ⟨G, hG⟩ : ∃ G, ts.length = G := ⟨_, rfl⟩
  have HF := Lib.hid hF
  have HG := Lib.hid hG
  rw [hF]
  rw [hG] at htl ⊢
  simp only [hF] at CN
  clear hF hG
  go_enter Try.func47, Try.ntmps47
  go_wp2_with fail
  have hX : Below (w.heap.size + 2) (boxK w a b d T G tc A F c) (boxK w a b d T G tc A F c) := Below.refl _ _
  go_loopw [5] (fun v wr => ∃ (s : Nat) (V : Value) (rs : List (List Ed)) (vs : List Value), s ≤ n ∧ v = .int .i64 s ∧ Hid (wr.heap[w.heap.size + 2]? = some (.cells #[.int .i64 i, .int .i64 o, V] 24)) ∧ Hid (Bld wr (w.heap.size + 3) V rs vs) ∧ Hid (Dst vs) ∧ Hid (rs.length = s ∧ ∀ row ∈ rs, row.length = i ∧ ∀ x ∈ row, x.1 = -1 ∧ 0 ≤ x.2 ∧ x.2 < o) ∧ Hid (Below (w.heap.size + 2) (boxK w a b d T G tc A F c) wr)) (fun v _ => n - (intOf v).toNat)
  case atStart =>
    refine ⟨0, .slice none 0 0, [], [], Nat.zero_le _, rfl, ?_, Bld.nil_ _ _, Dst.nil_, ⟨rfl, fun row h => by simp at h⟩, hX.alloc (by simp) _⟩
    have := heap_alloc_new (boxK w a b d T G tc A F c) (.cells #[.int .i64 i, .int .i64 o, .slice none 0 0] 24)
    rw [show (boxK w a b d T G tc A F c).heap.size = w.heap.size + 2 by simp] at this
    exact this
  case round =>
    clear hX
    obtain ⟨s, V, rs, vs, hs, rfl, hM, hB, hD, hQ, hbr⟩ := hrel
    have hts : rs.length = s := hQ.out.1
    obtain ⟨A', c', hV, _⟩ := hB.out.rd
    rw [hts] at hV
    subst hV
    have HTS := Lib.hid hts
    clear hts
    obtain ⟨x3, x4⟩ := boxK_cells hbr.out
    have g0 : wr.cell? ⟨w.heap.size + 2, 0, none⟩ = some (.int .i64 i) := by rw [cell_of_row wr _ _ _ _ _ hM.out]; rfl
    have g1 : wr.cell? ⟨w.heap.size + 2, 1, none⟩ = some (.int .i64 o) := by rw [cell_of_row wr _ _ _ _ _ hM.out]; rfl
    have g2 : wr.cell? ⟨w.heap.size + 2, 2, none⟩ = some (.slice A' s c') := by rw [cell_of_row wr _ _ _ _ _ hM.out]; rfl
    have hGs : w.heap.size + 3 ≤ wr.heap.size := heap_lt hM.out
    by_cases hsl : s < n
    · go_wp2
      obtain ⟨wo, rfl⟩ : ∃ wo : World, wo = wr := ⟨_, rfl⟩
      go_loopw [6, 7] (fun u v wr => ∃ (j : Nat) (xs : List Ed), j ≤ i ∧ v = .int .i64 j ∧ wr.ownsRow wo.heap.size 26 2 u xs.length (eC xs) ∧ Hid (xs.length = j ∧ ∀ x ∈ xs, x.1 = -1 ∧ 0 ≤ x.2 ∧ x.2 < o) ∧ Hid (0 < j → u ≠ .slice none 0 0) ∧ Hid (Below wo.heap.size wo wr)) (fun _ v _ => i - (intOf v).toNat)
      case atStart => exact ⟨0, [], Nat.zero_le _, rfl, World.ownsRow_nil _ _ _ _, ⟨rfl, fun x h => by simp at h⟩, (fun h => absurd h (by omega)), Below.refl _ _⟩
      case round =>
        clear g0 g1 g2 x3 x4
        obtain ⟨j, xs, hj, rfl, hown, hxs, hnn, hbr2⟩ := hrel
        have hbr3 : Below (w.heap.size + 2) (boxK w a b d T G tc A F c) wr := hbr.out.trans (hbr2.out.mono (by omega))
        obtain ⟨x3, x4⟩ := boxK_cells hbr3
        have hM2 : Hid (wr.heap[w.heap.size + 2]? = some (.cells #[.int .i64 i, .int .i64 o, .slice A' s c'] 24)) := (hbr2.out.block _ (by omega)).trans hM.out
        have g0 : wr.cell? ⟨w.heap.size + 2, 0, none⟩ = some (.int .i64 i) := by rw [cell_of_row wr _ _ _ _ _ hM2.out]; rfl
        have g1 : wr.cell? ⟨w.heap.size + 2, 1, none⟩ = some (.int .i64 o) := by rw [cell_of_row wr _ _ _ _ _ hM2.out]; rfl
        have g2 : wr.cell? ⟨w.heap.size + 2, 2, none⟩ = some (.slice A' s c') := by rw [cell_of_row wr _ _ _ _ _ hM2.out]; rfl
        by_cases hjl : j < i
        · obtain ⟨K, hK⟩ : ∃ K : Nat, (s : Int) * (i : Int) = K := ⟨s * i, by simp⟩
          have hK' : s * i = K := by exact_mod_cast hK
          have hKb : K ≤ 18 := by rw [← hK']; exact Nat.le_trans (Nat.mul_le_mul (show s ≤ 6 by omega) i2) (by decide)
          have hj3 : j ≤ 3 := by omega
          clear hK'
          go_wp2_with fail
          rw [show ((K : Int) + (j : Int)) = ((K + j : Nat) : Int) by omega]
          refine (CN (K + j) _ (HR.out.below (boxK_below hbr3))).mono ?_
          rintro e w1 ⟨z, rfl, hz0, hz1, hb1⟩
          clear x3 x4 g0 g1 g2 hK
          have hbr2' := Lib.hid (below_next hbr2.out hb1)
          have hbr3' := Lib.hid (hbr.out.trans (hbr2'.out.mono (by omega)))
          have hM3 : Hid (w1.heap[w.heap.size + 2]? = some (.cells #[.int .i64 i, .int .i64 o, .slice A' s c'] 24)) := (hbr2'.out.block _ (by omega)).trans hM.out
          have g1 : w1.cell? ⟨w.heap.size + 2, 1, none⟩ = some (.int .i64 o) := by rw [cell_of_row w1 _ _ _ _ _ hM3.out]; rfl
          have hown1 : w1.ownsRow wo.heap.size 26 2 u6 xs.length (eC xs) := own_below hown hb1
          have hn0 : ((n : Int) == 0) = false := by rw [beq_eq_false_iff_ne]; omega
          have ho0 : ((o : Int) == 0) = false := by rw [beq_eq_false_iff_ne]; omega
          have hn0a : ¬ n = 0 := by omega
          have ho0a : ¬ o = 0 := by omega
          obtain ⟨Y, hY, hY0, hY1⟩ : ∃ Y, (IntKind.i64.wrap (z.tdiv (n : Int))).tmod (o : Int) = Y ∧ 0 ≤ Y ∧ Y < o := by
            refine ⟨_, rfl, ?_, ?_⟩
            · rw [go_div hz0 hz1 (by omega), Int.tmod_eq_emod_of_nonneg (Int.ediv_nonneg hz0 (by omega))]
              exact Int.emod_nonneg _ (by omega)
            · rw [go_div hz0 hz1 (by omega), Int.tmod_eq_emod_of_nonneg (Int.ediv_nonneg hz0 (by omega))]
              exact Int.emod_lt_of_pos _ (by omega)
          have hxl : Hid (xs.length ≤ 1000000) := by have := hxs.out.1; show _ ≤ _; omega
          have hszr := hbr2'.out.size
          have s3 : xs.length + 1 ≤ maxLen := by have := hxl.out; unfold maxLen; omega
          have s4 : (xs.length + 1) * 16 ≤ 140737488355328 := by have := hxl.out; omega
          have hownE : (w1.alloc (.cells #[.int .i64 (-1), .int .i64 Y] 26)).drew.ownsRow wo.heap.size 26 2 u6 xs.length (eC xs) := hown1.alloc _
          have S1 := Lib.hid (cells_pair w1 (-1) Y)
          have S2 := Lib.hid (two_cells (-1) Y)
          have hbrE : Below wo.heap.size wo (w1.alloc (.cells #[.int .i64 (-1), .int .i64 Y] 26)).drew := (hbr2'.out.alloc hszr _).drew
          have s5 : wo.heap.size ≤ (w1.alloc (.cells #[.int .i64 (-1), .int .i64 Y] 26)).drew.heap.size := by simp; omega
          have HX := Lib.hid (show xs.length + 1 = j + 1 ∧ ∀ x ∈ xs ++ [((-1 : Int), Y)], x.1 = -1 ∧ 0 ≤ x.2 ∧ x.2 < o from ⟨by rw [hxs.out.1], fun x hx => by
            rcases List.mem_append.1 hx with hx | hx
            · exact hxs.out.2 x hx
            · obtain rfl : x = _ := by simpa using hx
              exact ⟨rfl, hY0, hY1⟩⟩)
          clear hown hY0 hY1 hxs hnn hbr2 hbr3 hbr2' hbr3' hM2 hM3
          go_wp2_with fail
          go_region_law (refine step_append_lies _ rfl (.tmp 51) (.tmp 59) 28 rfl wo.heap.size 26 k0 (.agg #[.int .i64 0, .int .i64 0]) 2 16 Try.underlying28 hk0 hk1 hk2 hk3 rfl (by decide) u6 xs.length (eC xs) (by simp [Act.eval]) hownE ⟨w1.heap.size, 0, none⟩ 1 1 [.int .i64 (-1), .int .i64 Y] (by simp [Act.eval]) rfl S1.out S2.out (by decide) s3 s4 s5 _ rfl ?_; intro g2 c3 w2 hown1 hg1 hat1 hlt1)
          all_goals
            have hbr4 : Below wo.heap.size wo w2 := hbrE.grown hg1 s5 (fun j hj => (hownE.lt j hj).1)
            have hown2 : w2.ownsRow wo.heap.size 26 2 (.slice (some ⟨g2, 0, none⟩) (xs.length + 1) c3) (xs ++ [(-1, Y)]).length (eC (xs ++ [(-1, Y)])) := by
              rw [eC_app, eC_one, List.length_append]; exact hown1
            clear hown1 hg1 hownE hat1 hlt1 S1 S2 s3 s4
            go_wp2
            exact ⟨⟨j + 1, _, by omega, by go_num, hown2, ⟨by rw [List.length_append]; exact HX.out.1, HX.out.2⟩, fun _ => (fun e => by cases e), hbr4⟩, by simp [intOf] <;> omega⟩
        · have hji : ¬ (j : Int) < i := by omega
          obtain rfl : j = i := by omega
          have hxl : xs.length = j := hxs.out.1
          rw [hxl] at hown
          have HXL := Lib.hid hxl
          clear hxl
          obtain ⟨gq, cq, rfl, hcq⟩ := edge_form hown (hnn.out (by omega))
          have hgq := (hown.lt gq rfl).1
          have hS1 := Lib.hid (cell_one_new wr (t := 28) (.slice (some ⟨gq, 0, none⟩) j cq))
          have hBr := Lib.hid (hB.out.below hbr2.out)
          have hown17 := (hBr.out.1.alloc (.cells #[.slice (some ⟨gq, 0, none⟩) j cq] 28))
          rw [HTS.out] at hown17
          have hS2 : Hid (∀ u ∈ ([.slice (some ⟨gq, 0, none⟩) j cq] : List Value), u.oneCell' = true) := fun u hu => by simp at hu; subst hu; rfl
          have hS3 : s + 1 ≤ maxLen := by unfold maxLen; omega
          have hS4 : (s + 1) * 24 ≤ 140737488355328 := by omega
          have hS5 : w.heap.size + 3 ≤ (wr.alloc (.cells #[.slice (some ⟨gq, 0, none⟩) j cq] 28)).heap.size := by have := hbr2.out.size; simp; omega
          have hDn : Hid (Dst (vs ++ [.slice (some ⟨gq, 0, none⟩) xs.length cq])) := hD.out.push fun q u hq e => by
            have hql : q < rs.length := by
              have h1 := (List.getElem?_eq_some_iff.1 hq).1
              have h2 := hB.out.1.1
              omega
            obtain ⟨g', c'', h3, h4⟩ := hB.out.2 q _ (List.getElem?_eq_getElem hql)
            rw [hq] at h3
            injection h3 with h3
            subst h3
            have h5 := (h4.lt g' rfl).2
            have e : some g' = some gq := e
            injection e with e
            omega
          go_wp2_with (at_builtin; refine wpList_append_own _ rfl _ _ 22 rfl (w.heap.size + 3) 28 r0 (.slice none 0 0) 1 24 Try.underlying22 hr0 hr1 hr2 hr3 rfl (by decide) _ _ _ rfl hown17 ⟨wr.heap.size, 0, none⟩ 1 1 [.slice (some ⟨gq, 0, none⟩) j cq] rfl rfl hS1.out hS2.out hS3 hS4 hS5 ?_)
          intro v1 w1 hown1 hg1 hnil1
          have hne : some (w.heap.size + 2) ≠ (Value.slice A' s c').ownBlock := fun e => by
            have := (hown17.lt _ e.symm).1
            omega
          have hM3 : Hid (w1.heap[w.heap.size + 2]? = some (.cells #[.int .i64 j, .int .i64 o, .slice A' s c'] 24)) := by
            show _ = _
            rw [hg1.block (w.heap.size + 2) (by simp; have := hbr2.out.size; omega) hne, heap_alloc_old wr _ (by have := hbr2.out.size; omega)]
            exact hM2.out
          have g3 : w1.cell? ⟨w.heap.size + 2, 2, none⟩ = some (.slice A' s c') := by rw [cell_of_row w1 _ _ _ _ _ hM3.out]; rfl
          have f3 : w1.frozen? ⟨w.heap.size + 2, 2, none⟩ = false := by have := hM3.out; simp [World.frozen?, this]
          have hpush := hBr.out.push (row := xs) (g := gq) (c := cq) (V1 := v1) (w1 := w1) (o := .cells #[.slice (some ⟨gq, 0, none⟩) j cq] 28) (by unfold OwR; rw [HXL.out]; exact own_base hown (by omega)) (by rw [HTS.out, HXL.out]; exact hown1) hg1
          clear hnil1 hown1
          obtain ⟨A1, c1, rfl, hc1, hc1m, _, _⟩ := hpush.rd
          have hl1 : (rs ++ [xs]).length = s + 1 := by rw [List.length_append, HTS.out]; rfl
          rw [hl1] at hpush ⊢
          have hset := hpush.kept (grown_setCell w1 ⟨w.heap.size + 2, 2, none⟩ (.slice A1 (s + 1) c1)) (by show w.heap.size + 2 < _; omega)
          have hset := Lib.hid hset
          have hM4 : Hid ((w1.setCell ⟨w.heap.size + 2, 2, none⟩ (.slice A1 (s + 1) c1)).heap[w.heap.size + 2]? = some (.cells #[.int .i64 j, .int .i64 o, .slice A1 (s + 1) c1] 24)) := by
            have := hM3.out
            show _ = _
            simp [World.setCell, Array.getElem?_modify, this]
          have hbF : Hid (Below (w.heap.size + 2) (boxK w a b d T G tc A F c) (w1.setCell ⟨w.heap.size + 2, 2, none⟩ (.slice A1 (s + 1) c1))) :=
            ((hbr3.alloc (by have := hbr2.out.size; omega) (.cells #[.slice (some ⟨gq, 0, none⟩) j cq] 28)).grown hg1 (by simp; have := hbr2.out.size; omega) (fun j hj => by have := (hown17.lt _ hj).1; omega)).setCell (p := ⟨w.heap.size + 2, 2, none⟩) (Nat.le_refl (w.heap.size + 2)) _
          have hQn : Hid ((rs ++ [xs]).length = s + 1 ∧ ∀ row ∈ rs ++ [xs], row.length = j ∧ ∀ x ∈ row, x.1 = -1 ∧ 0 ≤ x.2 ∧ x.2 < o) := ⟨hl1, fun row hrow => by
            rcases List.mem_append.1 hrow with h | h
            · exact hQ.out.2 row h
            · obtain rfl : row = xs := by simpa using h
              exact ⟨HXL.out, hxs.out.2⟩⟩
          clear hown hg1 hpush hl1 hne hM3
          go_wp2
          go_roundw
          case rel => exact ⟨s + 1, _, _, _, by omega, by go_num, hM4, hset, hDn, hQn, hbF⟩
          case measure => simp [intOf]; omega
    · obtain rfl : s = n := by omega
      have hGr : Hid (Mc.Gr s i o rs) := ⟨HTS.out, fun row hrow => (hQ.out.2 row hrow).1, fun row hrow x hx => ((hQ.out.2 row hrow).2 x hx).2⟩
      have hTr : Hid (Mc.Tr s i 1 rs) := Mc.Tr.start fun k hk => by
        obtain ⟨row, h1, _, _, _, h5⟩ := hGr.out.at_ HI.out.1 hk
        exact ((hQ.out.2 row (List.mem_of_getElem? h1)).2 _ (List.mem_of_getElem? h5)).1
      obtain ⟨p, rfl⟩ : ∃ p, A' = some ⟨p, 0, none⟩ := by
        obtain ⟨row, h1, _, _, _, h5⟩ := hGr.out.at_ (k := 0) HI.out.1 (Nat.mul_pos HNn.out.1 HI.out.1)
        obtain ⟨p, _, _, e, _⟩ := hB.out.place h1 h5
        exact ⟨p, e⟩
      go_wp2
      clear g0 g1 g2 x3 x4 hQ HTS
      go_loopw [9] (fun v wr => ∃ (t : Nat) (rs : List (List Ed)) (vs : List Value), 1 ≤ t ∧ t ≤ s ∧ v = .int .i64 t ∧ Hid (wr.heap[w.heap.size + 2]? = some (.cells #[.int .i64 i, .int .i64 o, .slice (some ⟨p, 0, none⟩) s c'] 24)) ∧ Hid (Bld wr (w.heap.size + 3) (.slice (some ⟨p, 0, none⟩) s c') rs vs) ∧ Hid (Dst vs) ∧ Hid (Mc.Gr s i o rs) ∧ Hid (Mc.Tr s i t rs) ∧ Hid (Below (w.heap.size + 2) (boxK w a b d T G tc A F c) wr)) (fun v _ => s - (intOf v).toNat)
      case atStart => exact ⟨1, rs, vs, by omega, by omega, rfl, hM, hB, hD, hGr, hTr, hbr⟩
      case round =>
        clear hM hB hD hGr hTr hbr hGs
        obtain ⟨t, rs, vs, ht1, hts, rfl, hM, hB, hD, hGr, hTr, hbr⟩ := hrel
        have hGs : w.heap.size + 3 ≤ wr.heap.size := heap_lt hM.out
        by_cases htl : t < s
        · obtain ⟨K, hK⟩ : ∃ K : Nat, (t : Int) * (i : Int) = K := ⟨t * i, by simp⟩
          have hK' : t * i = K := by exact_mod_cast hK
          have hKb : K ≤ 18 := by rw [← hK']; exact Nat.le_trans (Nat.mul_le_mul (show t ≤ 6 by omega) i2) (by decide)
          have hKn : Hid (K ≤ s * i) := by show _; rw [← hK']; exact Nat.mul_le_mul_right i (by omega)
          have hKF : Hid (1 ≤ (Mc.frl rs i K).length) := by show _; rw [← hK']; exact hTr.out.free i1 ht1 htl
          have HK := Lib.hid hK'
          clear hK'
          go_wp2
          obtain ⟨wo, rfl⟩ : ∃ wo : World, wo = wr := ⟨_, rfl⟩
          go_loopw [10, 11] (fun l v wr => ∃ k : Nat, k ≤ K ∧ v = .int .i64 k ∧ Hid (OwI wr wo.heap.size l (Mc.frl rs i k)) ∧ Hid (Below wo.heap.size wo wr)) (fun _ v _ => K - (intOf v).toNat)
          case atStart => exact ⟨0, Nat.zero_le _, rfl, OwI.nil_ _ _, Below.refl _ _⟩
          case round =>
            obtain ⟨k, hk, rfl, hO, hbr2⟩ := hrel
            have hM2 : Hid (wr.heap[w.heap.size + 2]? = some (.cells #[.int .i64 i, .int .i64 o, .slice (some ⟨p, 0, none⟩) s c'] 24)) := (hbr2.out.block _ (by omega)).trans hM.out
            have g0 : wr.cell? ⟨w.heap.size + 2, 0, none⟩ = some (.int .i64 i) := by rw [cell_of_row wr _ _ _ _ _ hM2.out]; rfl
            have g2 : wr.cell? ⟨w.heap.size + 2, 2, none⟩ = some (.slice (some ⟨p, 0, none⟩) s c') := by rw [cell_of_row wr _ _ _ _ _ hM2.out]; rfl
            have hB2 := Lib.hid (hB.out.below hbr2.out)
            by_cases hlt : k < K
            · have hkK : (k : Int) < K := by omega
              obtain ⟨row, e1, e2, e3, e4, e5⟩ := hGr.out.at_ (k := k) i1 (by have := hKn.out; omega)
              obtain ⟨g, cc, _, _, _, q1, q2, _, _⟩ := hB2.out.placeP e1 e5
              rw [e2] at q1
              obtain ⟨x0, hx0⟩ : ∃ x, (Mc.fe rs i k).1 = x := ⟨_, rfl⟩
              rw [hx0] at q2
              have d1' : ((k : Int)).tdiv (i : Int) = ((k / i : Nat) : Int) := divI
              have d2' : ((k : Int)).tmod (i : Int) = ((k % i : Nat) : Int) := modI
              obtain ⟨a0, ha0⟩ : ∃ a0, k / i = a0 := ⟨_, rfl⟩
              obtain ⟨b0, hb0⟩ : ∃ b0, k % i = b0 := ⟨_, rfl⟩
              rw [ha0] at d1' e4 q1
              rw [hb0] at d2' e3 q2
              have d1 : IntKind.i64.wrap (((k : Int)).tdiv (i : Int)) = (a0 : Int) := by rw [d1']; exact IntWalk.i64_in _ (by omega)
              have hi0 : ((i : Int) == 0) = false := by rw [beq_eq_false_iff_ne]; omega
              have hi0a : ¬ i = 0 := by omega
              have e3' : (b0 : Int) < i := by omega
              have e4' : (a0 : Int) < s := by omega
              have HX := Lib.hid hx0
              clear hx0 ha0 hb0 e1 e2 e5
              by_cases hneg : x0 < 0
              · have t1 : decide (x0 < 0) = true := decide_eq_true hneg
                have hfl : Hid (Mc.frl rs i (k + 1) = Mc.frl rs i k ++ [(k : Int)]) := Mc.frl_yes (by rw [HX.out]; exact hneg)
                have hfle := Mc.frl_le rs i k
                clear HX hneg
                go_wp2_with fail
                go_quiet (fail)
                clear q1 q2 d1 d1' d2' t1 hi0 hi0a e3' e4' g0 g2
                have hO9 : Hid (OwI (wr.drewN nq) wo.heap.size u10 (Mc.frl rs i k)) := own_below hO.out (below_drewN' (Below.refl _ _) nq)
                have hb9 := Lib.hid (below_drewN' hbr2.out nq)
                obtain ⟨W9, hW9⟩ : ∃ W, wr.drewN nq = W := ⟨_, rfl⟩
                rw [hW9] at hb9 hO9
                rw [hW9]
                clear hW9 hO hbr2 hM2 hB2
                have hSq : Hid (Rd (W9.alloc (.cells #[.int .i64 k] 3)) (some ⟨W9.heap.size, 0, none⟩) [(k : Int)]) := Rd.of_block (t := 3) (heap_alloc_new W9 _)
                have hO3 : Hid (OwI (W9.alloc (.cells #[.int .i64 k] 3)) wo.heap.size u10 (Mc.frl rs i k)) := own_below hO9.out ((Below.refl _ _).alloc (Nat.le_refl _) _)
                have hb3 := Lib.hid (hb9.out.alloc hb9.out.size (.cells #[.int .i64 k] 3))
                clear hO9
                go_wp2_with (at_builtin; refine wpList_append_list _ (W0 := wo) (B := wo.heap.size) (xs := Mc.frl rs i k) (ys := [(k : Int)]) hO3.out hSq.out rfl ?b1 ?b2 hb3.out rfl _ _ rfl rfl rfl ?_)
                case b1 => simp; omega
                case b2 => exact hb3.out.size
                intro v9 w12 hO4 hb4
                have hO5 : Hid (OwI w12 wo.heap.size v9 (Mc.frl rs i (k + 1))) := by show OwI _ _ _ _; rw [hfl.out]; exact hO4
                have HB4 := Lib.hid hb4
                clear hO4 hb4 hO3 hb3 hSq hfl hb9
                go_wp2
                go_roundw
                case rel => exact ⟨k + 1, by omega, by go_num, hO5, HB4⟩
                case measure => simp [intOf]; omega
              · have t1 : decide (x0 < 0) = false := decide_eq_false hneg
                have hfl : Hid (Mc.frl rs i (k + 1) = Mc.frl rs i k) := Mc.frl_no (by rw [HX.out]; exact hneg)
                clear HX hneg
                go_wp2_with fail
                go_quiet (fail)
                clear q1 q2 d1 d1' d2' t1 hi0 hi0a e3' e4' g0 g2
                have hO9 : Hid (OwI (wr.drewN nq) wo.heap.size u10 (Mc.frl rs i (k + 1))) := by
                  show OwI _ _ _ _
                  rw [hfl.out]
                  exact own_below hO.out (below_drewN' (Below.refl _ _) nq)
                have hb9 := Lib.hid (below_drewN' hbr2.out nq)
                go_wp2
                go_roundw
                case rel => exact ⟨k + 1, by omega, by go_num, hO9, hb9⟩
                case measure => simp [intOf]; omega
            · obtain rfl : k = K := by omega
              obtain ⟨gf, df, rfl⟩ := own_formJ hO.out hKF.out
              obtain ⟨Fl, hFl⟩ : ∃ L, Mc.frl rs i k = L := ⟨_, rfl⟩
              obtain ⟨f, hf⟩ : ∃ f, Fl.length = f := ⟨_, rfl⟩
              have hOk : Hid (wr.ownsRow wo.heap.size 3 1 (.slice (some ⟨gf, 0, none⟩) f df) f (ints Fl)) := by
                have h : wr.ownsRow wo.heap.size 3 1 (.slice (some ⟨gf, 0, none⟩) (Mc.frl rs i k).length df) (Mc.frl rs i k).length (ints (Mc.frl rs i k)) := hO.out
                rw [hFl, hf] at h
                exact h
              rw [hFl, hf]
              have hf1 : 1 ≤ f := by rw [← hf, ← hFl]; exact hKF.out
              have hf18 : f ≤ 18 := by have := Mc.frl_le rs i k; rw [hFl, hf] at this; omega
              have hmem : Hid (∀ (q : Nat) (z : Int), q < f → Fl[q]?.getD 0 = z → ∃ kk : Nat, z = kk ∧ kk < k ∧ (Mc.fe rs i kk).1 < 0) := fun q z hq hz => by
                have h1 : Fl[q]? = some z := by
                  rw [List.getElem?_eq_getElem (by rw [hf]; exact hq)] at hz ⊢
                  exact congrArg some hz
                rw [← hFl] at h1
                exact Mc.frl_mem (List.mem_of_getElem? h1)
              clear hO hFl hf hlt
              obtain ⟨z0, c0, _, _, hz0⟩ := own_cellI hOk.out (k := 0) hf1
              obtain ⟨kz, rfl, hkz1, hkz2⟩ := hmem.out 0 z0 hf1 hz0.out
              have HKZ := Lib.hid (And.intro hkz1 hkz2)
              have hbr3 := Lib.hid (hbr.out.trans (hbr2.out.mono (by omega)))
              obtain ⟨x3, x4⟩ := boxK_cells hbr3.out
              clear hz0 hkz1 hkz2
              obtain ⟨t', ht'⟩ : ∃ t', t - 1 = t' := ⟨_, rfl⟩
              have ht1' : (t : Int) - 1 = (t' : Int) := by omega
              go_upto_if 108 with fail
              go_cut [12] from 67 to 136 (fun u wx => ∃ kk : Nat, u = .int .i64 kk ∧ Hid (kk < k ∧ (Mc.fe rs i kk).1 < 0) ∧ wx = wr)
              case first =>
                by_cases htG : t' < G
                · obtain ⟨bT, oT, xt, rfl, _, ct, xt0, xt1, _⟩ := (HR8.out.below (boxK_below hbr3.out)).at_ (k := t') (by rw [HG.out]; exact htG)
                  obtain ⟨q, hq, hqf⟩ : ∃ q : Nat, xt.tmod (f : Int) = q ∧ q < f := ⟨(xt.tmod (f : Int)).toNat, by rw [Int.tmod_eq_emod_of_nonneg xt0]; have := Int.emod_nonneg xt (show (f : Int) ≠ 0 by omega); omega, by rw [Int.tmod_eq_emod_of_nonneg xt0]; have := Int.emod_lt_of_pos xt (show (0 : Int) < f by omega); have := Int.emod_nonneg xt (show (f : Int) ≠ 0 by omega); omega⟩
                  obtain ⟨zq, cq, _, _, hzq⟩ := own_cellI hOk.out (k := q) hqf
                  obtain ⟨kq, rfl, hkq1, hkq2⟩ := hmem.out q zq hqf hzq.out
                  have HKQ := Lib.hid (And.intro hkq1 hkq2)
                  have hw0 : IntKind.i64.wrap xt = xt := IntWalk.i64_in _ (by omega)
                  have hf0 : ((f : Int) == 0) = false := by rw [beq_eq_false_iff_ne]; omega
                  have hf0a : ¬ f = 0 := by omega
                  have htGI : (t' : Int) < G := by omega
                  have hqfI : (q : Int) < f := by omega
                  have tG' : decide ((t' : Int) < G) = true := decide_eq_true htGI
                  clear hzq hkq1 hkq2 ht'
                  go_wp2
                  go_meet
                  exact ⟨kq, rfl, HKQ, rfl⟩
                · have tG : decide ((t' : Int) < G) = false := decide_eq_false (by omega)
                  have tG0 : decide ((t : Int) - 1 < G) = false := decide_eq_false (by omega)
                  have tG1 : ¬ (t' : Int) < G := by omega
                  have tG2 : ¬ (t : Int) - 1 < G := by omega
                  clear htG ht1' ht'
                  go_wp2
                  go_meet
                  exact ⟨kz, rfl, HKZ, rfl⟩
              case rest =>
              obtain ⟨kk, rfl, hkk, rfl⟩ := hcut
              clear ht1' ht' c0 x3 x4 g0 g2 hM2 hB2 hOk hmem HKZ
              have hkkn : kk < s * i := by have := hkk.out.1; have := hKn.out; omega
              have hM2 : Hid (wc.heap[w.heap.size + 2]? = some (.cells #[.int .i64 i, .int .i64 o, .slice (some ⟨p, 0, none⟩) s c'] 24)) := (hbr2.out.block _ (by omega)).trans hM.out
              have g0 : wc.cell? ⟨w.heap.size + 2, 0, none⟩ = some (.int .i64 i) := by rw [cell_of_row wc _ _ _ _ _ hM2.out]; rfl
              have g2 : wc.cell? ⟨w.heap.size + 2, 2, none⟩ = some (.slice (some ⟨p, 0, none⟩) s c') := by rw [cell_of_row wc _ _ _ _ _ hM2.out]; rfl
              have hB2 := Lib.hid (hB.out.below hbr2.out)
              obtain ⟨row, e1, e2, e3, e4, e5⟩ := hGr.out.at_ (k := kk) i1 hkkn
              obtain ⟨g, cc, hpb, hgb, hpg, q1, q2, q3, hv⟩ := hB2.out.placeP e1 e5
              have hnew := Lib.hid (hB2.out.setTo (y := (t : Int)) hD.out e1 e5 hv.out)
              obtain ⟨hGn, _, _⟩ := hGr.out.put i1 hkkn e1 (t : Int)
              have hTn := hTr.out.put hGr.out i1 ht1 htl (show kk < t * i by rw [HK.out]; exact hkk.out.1) hkk.out.2 e1
              obtain ⟨rs', hrs'⟩ : ∃ rs', rs.set (kk / i) (row.set (kk % i) ((t : Int), (Mc.fe rs i kk).2)) = rs' := ⟨_, rfl⟩
              rw [hrs'] at hnew hGn hTn
              have HGn := Lib.hid hGn
              have HTn := Lib.hid hTn
              rw [e2] at q1
              obtain ⟨x0, hx0⟩ : ∃ x, (Mc.fe rs i kk).1 = x := ⟨_, rfl⟩
              rw [hx0] at q2
              have d1' : ((kk : Int)).tdiv (i : Int) = ((kk / i : Nat) : Int) := divI
              have d2' : ((kk : Int)).tmod (i : Int) = ((kk % i : Nat) : Int) := modI
              obtain ⟨a0, ha0⟩ : ∃ a0, kk / i = a0 := ⟨_, rfl⟩
              obtain ⟨b0, hb0⟩ : ∃ b0, kk % i = b0 := ⟨_, rfl⟩
              rw [ha0] at d1' e4 q1
              rw [hb0] at d2' e3 q2 q3 hnew
              have d1 : IntKind.i64.wrap (((kk : Int)).tdiv (i : Int)) = (a0 : Int) := by rw [d1']; exact IntWalk.i64_in _ (by omega)
              have hi0 : ((i : Int) == 0) = false := by rw [beq_eq_false_iff_ne]; omega
              have hi0a : ¬ i = 0 := by omega
              have e3' : (b0 : Int) < i := by omega
              have e4' : (a0 : Int) < s := by omega
              have HVg := Lib.hid hgb
              clear hx0 ha0 hb0 e1 e2 e5 hGn hTn hrs' hkk hkkn hv hTr hGr hB hB2
              go_wp2_with fail
              go_region
              have hM3 : Hid (((wc.setCell ⟨g, b0 * 2, none⟩ (.int .i64 t)).drew).heap[w.heap.size + 2]? = some (.cells #[.int .i64 i, .int .i64 o, .slice (some ⟨p, 0, none⟩) s c'] 24)) :=
                (Below.heap_setCell _ _ _ _ (by show w.heap.size + 2 ≠ g; omega)).trans hM2.out
              have hB3 : Hid (Bld (wc.setCell ⟨g, b0 * 2, none⟩ (.int .i64 t)).drew (w.heap.size + 3) (.slice (some ⟨p, 0, none⟩) s c') rs' vs) := hnew.out.below (Below.refl _ _).drew
              have hb3 : Hid (Below (w.heap.size + 2) (boxK w a b d T G tc A F c) (wc.setCell ⟨g, b0 * 2, none⟩ (.int .i64 t)).drew) := ((hbr.out.trans (hbr2.out.mono (by omega))).setCell (p := ⟨g, b0 * 2, none⟩) (by show w.heap.size + 2 ≤ g; omega) _).drew
              clear q1 q2 q3 hnew hM2 hM hbr hbr2
              go_wp2
              go_roundw
              case rel => exact ⟨t + 1, rs', vs, by omega, by omega, by go_num, hM3, hB3, hD, HGn, HTn, hb3⟩
              case measure => simp [intOf]; omega
        · obtain rfl : t = s := by omega
          have hFl : Hid (Mc.Fl t i (0 * i) rs) := by show Mc.Fl _ _ _ _; rw [Nat.zero_mul]; exact hTr.out.fl
          have hGs' : w.heap.size + 3 ≤ wr.heap.size := hGs
          clear hTr htl hGs
          go_wp2
          go_loopw [13] (fun v wr => ∃ (q : Nat) (rs : List (List Ed)) (vs : List Value), q ≤ t ∧ v = .int .i64 q ∧ Hid (wr.heap[w.heap.size + 2]? = some (.cells #[.int .i64 i, .int .i64 o, .slice (some ⟨p, 0, none⟩) t c'] 24)) ∧ Hid (Bld wr (w.heap.size + 3) (.slice (some ⟨p, 0, none⟩) t c') rs vs) ∧ Hid (Dst vs) ∧ Hid (Mc.Gr t i o rs) ∧ Hid (Mc.Fl t i (q * i) rs) ∧ Hid (Below (w.heap.size + 2) (boxK w a b d T G tc A F c) wr)) (fun v _ => t - (intOf v).toNat)
          case atStart => exact ⟨0, rs, vs, by omega, rfl, hM, hB, hD, hGr, hFl, hbr⟩
          case round =>
            clear hM hB hD hGr hFl hbr hGs'
            obtain ⟨q, rs, vs, hqt, rfl, hM, hB, hD, hGr, hFl, hbr⟩ := hrel
            by_cases hql : q < t
            · go_wp2
              go_loopw [14] (fun v wr => ∃ (j : Nat) (rs : List (List Ed)) (vs : List Value), j ≤ i ∧ v = .int .i64 j ∧ Hid (wr.heap[w.heap.size + 2]? = some (.cells #[.int .i64 i, .int .i64 o, .slice (some ⟨p, 0, none⟩) t c'] 24)) ∧ Hid (Bld wr (w.heap.size + 3) (.slice (some ⟨p, 0, none⟩) t c') rs vs) ∧ Hid (Dst vs) ∧ Hid (Mc.Gr t i o rs) ∧ Hid (Mc.Fl t i (q * i + j) rs) ∧ Hid (Below (w.heap.size + 2) (boxK w a b d T G tc A F c) wr)) (fun v _ => i - (intOf v).toNat)
              case atStart => exact ⟨0, rs, vs, by omega, rfl, hM, hB, hD, hGr, hFl, hbr⟩
              case round =>
                clear hM hB hD hGr hFl hbr
                obtain ⟨j, rs, vs, hji, rfl, hM, hB, hD, hGr, hFl, hbr⟩ := hrel
                have g0 : wr.cell? ⟨w.heap.size + 2, 0, none⟩ = some (.int .i64 i) := by rw [cell_of_row wr _ _ _ _ _ hM.out]; rfl
                have g2 : wr.cell? ⟨w.heap.size + 2, 2, none⟩ = some (.slice (some ⟨p, 0, none⟩) t c') := by rw [cell_of_row wr _ _ _ _ _ hM.out]; rfl
                by_cases hjl : j < i
                · have eD : (q * i + j) / i = q := by rw [Nat.add_comm, Nat.add_mul_div_right _ _ i1, Nat.div_eq_of_lt hjl, Nat.zero_add]
                  have eM : (q * i + j) % i = j := by rw [Nat.add_comm, Nat.add_mul_mod_self_right, Nat.mod_eq_of_lt hjl]
                  have hkn : q * i + j < t * i := by
                    have : (q + 1) * i ≤ t * i := Nat.mul_le_mul_right i hql
                    rw [Nat.add_mul] at this
                    omega
                  obtain ⟨row, e1, e2, _, _, e5⟩ := hGr.out.at_ i1 hkn
                  obtain ⟨x0, hx0⟩ : ∃ x, Mc.fe rs i (q * i + j) = x := ⟨_, rfl⟩
                  have HP := Lib.hid (fun (y : Int) (hy : 0 ≤ y ∧ y < t) (hneg : x0.1 < 0) => And.intro (hGr.out.put i1 hkn e1 y).1 (hFl.out.put hGr.out i1 hkn (by rw [hx0]; exact hneg) hy e1))
                  have HS := Lib.hid (fun (hneg : ¬ x0.1 < 0) => hFl.out.skip (by rw [hx0]; exact hneg))
                  rw [eD] at e1
                  rw [eM, hx0] at e5
                  rw [eD, eM, hx0] at HP
                  obtain ⟨g, cc, hpb, hgb, hpg, q1, q2, q3, hv⟩ := hB.out.placeP e1 e5
                  have HW := Lib.hid (fun (w' : World) (hB' : Bld w' (w.heap.size + 3) (.slice (some ⟨p, 0, none⟩) t c') rs vs) (y : Int) => hB'.setTo (y := y) hD.out e1 e5 hv.out)
                  rw [e2] at q1
                  have hjI : (j : Int) < i := by omega
                  have hqI : (q : Int) < t := by omega
                  clear e1 e2 e5 eD eM hx0
                  by_cases hneg : x0.1 < 0
                  · have t1 : decide (x0.1 < 0) = true := decide_eq_true hneg
                    obtain ⟨K, hK⟩ : ∃ K : Nat, (q : Int) * (i : Int) = K := ⟨q * i, by simp⟩
                    have hK' : q * i = K := by exact_mod_cast hK
                    have hKb : K ≤ 18 := by rw [← hK']; exact Nat.le_trans (Nat.mul_le_mul (show q ≤ 6 by omega) i2) (by decide)
                    have hj3 : j ≤ 3 := by omega
                    have CNj := Lib.hid (fun (w' : World) (h : Rd16 w' A es) => (show Calls Try.prog 76 #[.slice A F c, .int .i64 (IntKind.i64.wrap (IntKind.i64.wrap (K : Int) + (j : Int)))] w' fun e w'' => ∃ z, e = .returned (.int .i64 z) ∧ 0 ≤ z ∧ z ≤ 65535 ∧ Below w'.heap.size w' w'' from by have := CN (K + j) w' h; rwa [show (((K + j : Nat)) : Int) = IntKind.i64.wrap (IntKind.i64.wrap (K : Int) + (j : Int)) by rw [IntWalk.i64_in (K : Int) (by omega), IntWalk.i64_in ((K : Int) + j) (by omega)]; omega] at this))
                    obtain ⟨x3, x4⟩ := boxK_cells hbr.out
                    have hRR : Rd16 wr.drew A es := HR.out.below (below_next (boxK_below hbr.out) (Below.refl _ _).drew)
                    have hn0 : ((t : Int) == 0) = false := by rw [beq_eq_false_iff_ne]; omega
                    have hn0a : ¬ t = 0 := by omega
                    have hg9 : w.heap.size + 2 ≠ g := by omega
                    have hp9 : p ≠ g := hpg
                    have hk9 : w.heap.size ≠ g := by omega
                    clear hK' x3 CN
                    go_upto_region 33 with fail
                    go_region_held3 (fun W => W.cell? ⟨w.heap.size + 2, 2, none⟩ = some (.slice (some ⟨p, 0, none⟩) t c') ∧ W.cell? ⟨w.heap.size + 2, 0, none⟩ = some (.int .i64 i) ∧ W.cell? ⟨w.heap.size, 4, none⟩ = some (.slice A F c) ∧ W.cell? ⟨p, q, none⟩ = some (.slice (some ⟨g, 0, none⟩) i cc))
                      (first | exact ⟨m2, m0, m4, mq⟩ | exact ⟨y2, y0, y4, yq⟩ | exact ⟨g2, g0, x4, q1⟩ | go_keep)
                      (first
                        | (go_at_call 76
                           (with_reducible refine (CNj.out _ hRR).mono ?_)
                           rintro e w2 ⟨z, rfl, hz0, hz1, hb1⟩
                           have hbD : Below wr.heap.size wr w2 := below_next (Below.refl _ _).drew hb1
                           have hM2 : w2.heap[w.heap.size + 2]? = some (.cells #[.int .i64 i, .int .i64 o, .slice (some ⟨p, 0, none⟩) t c'] 24) := (hbD.block _ (heap_lt hM.out)).trans hM.out
                           have y0 : w2.cell? ⟨w.heap.size + 2, 0, none⟩ = some (.int .i64 i) := by rw [cell_of_row w2 _ _ _ _ _ hM2]; rfl
                           have y2 : w2.cell? ⟨w.heap.size + 2, 2, none⟩ = some (.slice (some ⟨p, 0, none⟩) t c') := by rw [cell_of_row w2 _ _ _ _ _ hM2]; rfl
                           obtain ⟨_, y4⟩ := boxK_cells (hbr.out.trans (hbD.mono (by have := hbr.out.size; simp at this; omega)))
                           have yq := (hbD.cell (p := ⟨p, q, none⟩) (World.block_lt_of_cell? wr ⟨p, q, none⟩ q1)).trans q1
                           have yg := (hbD.cell (p := ⟨g, j * 2, none⟩) (World.block_lt_of_cell? wr ⟨g, j * 2, none⟩ q2)).trans q2
                           have yf : w2.frozen? ⟨g, j * 2, none⟩ = false := by
                             have hb := hbD.block g (World.block_lt_of_cell? wr ⟨g, j * 2, none⟩ q2)
                             unfold World.frozen? at q3 ⊢
                             rw [hb]
                             exact q3
                           obtain ⟨Y, hY, hY0, hY1⟩ : ∃ Y, z.tmod (t : Int) = Y ∧ 0 ≤ Y ∧ Y < t := ⟨_, rfl, by rw [Int.tmod_eq_emod_of_nonneg hz0]; exact Int.emod_nonneg _ (by omega), by rw [Int.tmod_eq_emod_of_nonneg hz0]; exact Int.emod_lt_of_pos _ (by omega)⟩
                           have m0 := (World.cell?_setCell_far w2 ⟨g, j * 2, none⟩ ⟨w.heap.size + 2, 0, none⟩ (.int .i64 Y) hg9.symm).trans y0
                           have m2 := (World.cell?_setCell_far w2 ⟨g, j * 2, none⟩ ⟨w.heap.size + 2, 2, none⟩ (.int .i64 Y) hg9.symm).trans y2
                           have m4 := (World.cell?_setCell_far w2 ⟨g, j * 2, none⟩ ⟨w.heap.size, 4, none⟩ (.int .i64 Y) hk9.symm).trans y4
                           have mq := (World.cell?_setCell_far w2 ⟨g, j * 2, none⟩ ⟨p, q, none⟩ (.int .i64 Y) hp9.symm).trans yq
                           dsimp only)
                        | fail)
                    all_goals
                      obtain ⟨hGn, hFn⟩ := HP.out Y ⟨hY0, hY1⟩ hneg
                      have hBn := HW.out w2 (hB.out.below hbD) Y
                      obtain ⟨rs', hrs'⟩ : ∃ rs', rs.set q (row.set j (Y, x0.2)) = rs' := ⟨_, rfl⟩
                      rw [hrs'] at hGn hFn hBn
                      have HGn := Lib.hid hGn
                      have HFn := Lib.hid hFn
                      have HBn := Lib.hid hBn
                      have hMn : Hid ((w2.setCell ⟨g, j * 2, none⟩ (.int .i64 Y)).heap[w.heap.size + 2]? = some (.cells #[.int .i64 i, .int .i64 o, .slice (some ⟨p, 0, none⟩) t c'] 24)) :=
                        (Below.heap_setCell _ _ _ _ hg9).trans hM2
                      have hbn : Hid (Below (w.heap.size + 2) (boxK w a b d T G tc A F c) (w2.setCell ⟨g, j * 2, none⟩ (.int .i64 Y))) := (hbr.out.trans (hbD.mono (by have := hbr.out.size; simp at this; omega))).setCell (p := ⟨g, j * 2, none⟩) (by show w.heap.size + 2 ≤ g; omega) _
                      clear hGn hFn hBn hrs' HP HW HS hneg m0 m2 m4 mq y0 y2 y4 yq yg yf hM2 hbD hY hz0 hz1 hb1 g0 g2 x4 q1 q2 q3 hM hB hGr hFl hbr
                      go_wp2
                      go_roundw
                      case rel => exact ⟨j + 1, rs', vs, by omega, by go_num, hMn, HBn, hD, HGn, HFn, hbn⟩
                      case measure => simp [intOf]; omega
                  · have t1 : decide (x0.1 < 0) = false := decide_eq_false hneg
                    have hFn := HS.out hneg
                    have HFn := Lib.hid hFn
                    clear HP HW HS hneg hFn
                    go_wp2
                    go_roundw
                    case rel => exact ⟨j + 1, rs, vs, by omega, by go_num, hM, hB, hD, hGr, HFn, hbr⟩
                    case measure => simp [intOf]; omega
                · obtain rfl : j = i := by omega
                  have hFn : Hid (Mc.Fl t j ((q + 1) * j) rs) := by show Mc.Fl _ _ _ _; rw [Nat.add_mul, Nat.one_mul]; exact hFl.out
                  clear hFl
                  go_wp2
                  go_roundw
                  case rel => exact ⟨q + 1, rs, vs, by omega, by go_num, hM, hB, hD, hGr, hFn, hbr⟩
                  case measure => simp [intOf]; omega
            · obtain rfl : q = t := by omega
              have g0 : wr.cell? ⟨w.heap.size + 2, 0, none⟩ = some (.int .i64 i) := by rw [cell_of_row wr _ _ _ _ _ hM.out]; rfl
              have g1 : wr.cell? ⟨w.heap.size + 2, 1, none⟩ = some (.int .i64 o) := by rw [cell_of_row wr _ _ _ _ _ hM.out]; rfl
              have g2 : wr.cell? ⟨w.heap.size + 2, 2, none⟩ = some (.slice (some ⟨p, 0, none⟩) q c') := by rw [cell_of_row wr _ _ _ _ _ hM.out]; rfl
              have hz0 : BxM wr (w.heap.size + 1) 0 0 none 0 0 := by
                have h1 := hbr.out.block (w.heap.size + 1) (by omega)
                have h2 := heap_alloc_new (w.alloc (.cells #[.int .u8 a, .int .u8 b, .int .u8 d, .slice T G tc, .slice A F c] 43)) (.cells #[.int .i64 0, .int .i64 0, .slice none 0 0] 24)
                rw [show (w.alloc (.cells #[.int .u8 a, .int .u8 b, .int .u8 d, .slice T G tc, .slice A F c] 43)).heap.size = w.heap.size + 1 by simp] at h2
                exact h1.trans h2
              obtain ⟨r0', r1', r2'⟩ := BxM.cells hz0
              obtain ⟨f0, f1, f2⟩ := BxM.frozen hz0
              obtain ⟨e0, e1, e2⟩ := BxM.cells (BxM.set3 (i' := i) (o' := o) (A' := some ⟨p, 0, none⟩) (n' := q) (c' := c') hz0)
              have hfin : Hid (CofB w q i o (.returned (.agg #[.int .i64 i, .int .i64 o, .slice (some ⟨p, 0, none⟩) q c'])) (set3 wr (w.heap.size + 1) (.int .i64 i) (.int .i64 o) (.slice (some ⟨p, 0, none⟩) q c'))) := by
                have h1 := ((hB.out.kept (grown_setCell wr ⟨w.heap.size + 1, 0, none⟩ (.int .i64 i)) (by show w.heap.size + 1 < _; omega)).kept (grown_setCell _ ⟨w.heap.size + 1, 1, none⟩ (.int .i64 o)) (by show w.heap.size + 1 < _; omega)).kept (grown_setCell _ ⟨w.heap.size + 1, 2, none⟩ (.slice (some ⟨p, 0, none⟩) q c')) (by show w.heap.size + 1 < _; omega)
                exact ⟨⟨i, o, rs⟩, some ⟨p, 0, none⟩, c', vs, rfl, Mc.Cm.of hGr.out hFl.out HNn.out HI.out HOo.out, h1.base (by omega), below_set3' (boxK_below hbr.out) (by omega) _ _ _⟩
              clear hM hB hD hGr hFl hbr hql hqt hz0
              go_wp2
              refine bodyPost_ret (by simp [results, Try.results47, go_sem, e0, e1, e2]; rfl) rfl ?_
              exact hfin.out
theorem cof_any (a b d : Int) (T : Option Addr) (tc : Nat) (ts : List Int) (A : Option Addr) (c : Nat) (es : List Int) (n i o : Nat) (w : World) (hr8 : Rd8 w T ts) (hr : Rd16 w A es) (htl : ts.length ≤ 9223372036854775807) (ha : 0 ≤ a ∧ a ≤ 255) (hb : 0 ≤ b ∧ b ≤ 255) (hd : 0 ≤ d ∧ d ≤ 255)
    (hn : 1 + a % 6 = n) (hi : 1 + b % 3 = i) (ho : 1 + d % 3 = o) :
    Calls Try.prog 47 #[.agg #[.int .u8 a, .int .u8 b, .int .u8 d, .slice T ts.length tc, .slice A es.length c]] w (CofP w n i o) := by
  refine (cof_own a b d T tc ts A c es n i o w hr8 hr htl ha hb hd hn hi ho).mono ?_
  rintro e w' ⟨m, B, k, vs, rfl, h1, h2, h3⟩
  exact ⟨m, B, k, rfl, h1, Bld.two h2.out, h3⟩
end Go.Proofs.Ytnodnfailjmpeaa
