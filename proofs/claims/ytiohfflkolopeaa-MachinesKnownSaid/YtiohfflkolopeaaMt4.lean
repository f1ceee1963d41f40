/-
  The walk of the law MachinesSame. No statement is proved here.
-/
import Derived.Test.YtiohfflkolopeaaMt3
import Derived.Test.YtiohfflkolopeaaMc13
namespace Go.Proofs.Ytiohfflkolopeaa
open Go.RowKit
open Mc (Ed Ma)

theorem bA {w w' : World} (h : Below w.heap.size w w') (o : Obj) : Below w.heap.size w (w'.alloc o) := h.alloc h.size o
theorem bD {w w' : World} (h : Below w.heap.size w w') : Below w.heap.size w w'.drew := h.drew
theorem bS {w w' : World} (h : Below w.heap.size w w') {g j : Nat} (hg : w.heap.size ≤ g) (v : Value) : Below w.heap.size w (w'.setCell ⟨g, j, none⟩ v) := h.setCell (p := ⟨g, j, none⟩) hg v
namespace Mc
theorem samV_self (a : Ma) : samV a a = (chk a == 0) := by
  unfold samV
  simp
theorem samV_left {a b : Ma} (va : Val a) : samV a b = decide (a = b) := by
  unfold samV
  rw [chk_of va]
  by_cases h : a = b
  · subst h
    rw [chk_of va]
    rfl
  · simp [h]
end Mc
/-- Between a mark and the end of an older world nothing has changed. -/
structure Mid (base : Nat) (a w : World) : Prop where
  sz : a.heap.size ≤ w.heap.size
  eq : ∀ b, base ≤ b → b < a.heap.size → w.heap[b]? = a.heap[b]?
section
variable {base : Nat} {a w w' : World}
theorem Mid.refl (base : Nat) (a : World) : Mid base a a := ⟨Nat.le_refl _, fun _ _ _ => rfl⟩
theorem Mid.alloc (h : Mid base a w) (o : Obj) : Mid base a (w.alloc o) := ⟨by have := h.sz; simp; omega, fun b h1 h2 => (Below.heap_alloc _ _ _ (by have := h.sz; omega)).trans (h.eq b h1 h2)⟩
theorem Mid.drew (h : Mid base a w) : Mid base a w.drew := ⟨h.sz, h.eq⟩
theorem Mid.next (h : Mid base a w) (k : Below w.heap.size w w') : Mid base a w' := ⟨Nat.le_trans h.sz k.size, fun b h1 h2 => (k.block b (by have := h.sz; omega)).trans (h.eq b h1 h2)⟩
theorem Mid.set (h : Mid base a w) {p : Addr} (hg : p.block < base ∨ a.heap.size ≤ p.block) (v : Value) : Mid base a (w.setCell p v) := ⟨by simpa [World.setCell] using h.sz, fun b h1 h2 => (Below.heap_setCell _ _ _ _ (by omega)).trans (h.eq b h1 h2)⟩
theorem Mid.set3 (h : Mid base a w) {g : Nat} (hg : g < base ∨ a.heap.size ≤ g) (x y v : Value) : Mid base a (Go.Proofs.Ytiohfflkolopeaa.set3 w g x y v) := ((h.set (p := ⟨g, 0, none⟩) hg x).set (p := ⟨g, 1, none⟩) hg y).set (p := ⟨g, 2, none⟩) hg v
theorem ownsRow_mid {e : TypeId} {s n : Nat} {v : Value} {xs : List Value} (h : a.ownsRow base e s v n xs) (m : Mid base a w) : w.ownsRow base e s v n xs := by
  refine ⟨h.1, ?_⟩
  rcases h.2 with h0 | ⟨g, cap, cur, e1, hb, hg, rest⟩
  · exact .inl h0
  · exact .inr ⟨g, cap, cur, e1, hb, (m.eq g hb (heap_lt hg)).trans hg, rest⟩
theorem Bld.mid {V : Value} {rs : List (List Ed)} {vs : List Value} (h : Bld a base V rs vs) (m : Mid base a w) : Bld w base V rs vs :=
  ⟨ownsRow_mid h.1 m, fun k row hk => by
    obtain ⟨g, c, h1, h2⟩ := h.2 k row hk
    exact ⟨g, c, h1, ownsRow_mid h2 m⟩⟩
end
section
variable {w w' : World} {g G n c : Nat} {i o : Int} {A : Option Addr}
theorem BxM.al (h : BxM w g i o A n c) (ob : Obj) : BxM (w.alloc ob) g i o A n c := (Below.heap_alloc _ _ _ (heap_lt h)).trans h
theorem BxM.to (h : BxM w g i o A n c) (k : Below w.heap.size w w') : BxM w' g i o A n c := (k.block _ (heap_lt h)).trans h
theorem BxM.newB2 (w : World) (ob : Obj) (i o : Int) (A : Option Addr) (n c : Nat) : BxM ((w.alloc ob).alloc (.cells #[.int .i64 i, .int .i64 o, .slice A n c] 24)) (w.heap.size + 1) i o A n c := by
  have h := heap_alloc_new (w.alloc ob) (.cells #[.int .i64 i, .int .i64 o, .slice A n c] 24)
  rw [World.size_alloc] at h
  exact h
theorem BxM.newS (w : World) (h : Nat) (x y v : Value) (i o : Int) (A : Option Addr) (n c : Nat) : BxM ((Go.Proofs.Ytiohfflkolopeaa.set3 w h x y v).alloc (.cells #[.int .i64 i, .int .i64 o, .slice A n c] 24)) w.heap.size i o A n c := by
  have e : (Go.Proofs.Ytiohfflkolopeaa.set3 w h x y v).heap.size = w.heap.size := by simp [World.setCell]
  have h := heap_alloc_new (Go.Proofs.Ytiohfflkolopeaa.set3 w h x y v) (.cells #[.int .i64 i, .int .i64 o, .slice A n c] 24)
  rw [e] at h
  exact h
theorem BxM.toD (h : BxM w g i o A n c) (k : Below w.drew.heap.size w.drew w') : BxM w' g i o A n c := (k.block _ (heap_lt h)).trans h
/-- What a box of the call's own holds, and that it may be written. -/
theorem BxM.all (h : BxM w g i o A n c) : (w.cell? ⟨g, 0, none⟩ = some (.int .i64 i) ∧ w.cell? ⟨g, 1, none⟩ = some (.int .i64 o) ∧ w.cell? ⟨g, 2, none⟩ = some (.slice A n c)) ∧ (w.frozen? ⟨g, 0, none⟩ = false ∧ w.frozen? ⟨g, 1, none⟩ = false ∧ w.frozen? ⟨g, 2, none⟩ = false) ∧ g < w.heap.size := ⟨h.cells, h.frozen, heap_lt h⟩
theorem BxM.far3 (h : BxM w g i o A n c) (hne : g ≠ G) (x y v : Value) : BxM (Go.Proofs.Ytiohfflkolopeaa.set3 w G x y v) g i o A n c := (Below.heap_setCell _ _ _ _ hne).trans ((Below.heap_setCell _ _ _ _ hne).trans ((Below.heap_setCell _ _ _ _ hne).trans h))
theorem BxM.new1 (w : World) : BxM (w.alloc zM) w.heap.size 0 0 none 0 0 := heap_alloc_new w _
theorem BxM.new2 (w : World) (ob : Obj) : BxM ((w.alloc ob).alloc zM) (w.heap.size + 1) 0 0 none 0 0 := by
  have h := heap_alloc_new (w.alloc ob) zM
  rw [World.size_alloc] at h
  exact h
end
/-- What Of hands back, in memory of its own, in the words of a walk. -/
theorem mofB_at (a b d : Int) (p : Bool) (A : Option Addr) (c : Nat) (es : List Int) (n i o : Nat) (w : World) (hr : Rd16 w A es) (hl : es.length ≤ 9223372036854775807) (ha : 0 ≤ a ∧ a ≤ 255) (hb : 0 ≤ b ∧ b ≤ 255) (hd : 0 ≤ d ∧ d ≤ 255)
    (hn : 1 + a % 6 = n) (hi : 1 + b % 3 = i) (ho : 1 + d % 3 = o) :
    Calls Try.prog 28 #[.agg #[.int .u8 a, .int .u8 b, .int .u8 d, .bool p, .slice A es.length c]] w fun e w' => ∃ B k vs, e = .returned (.agg #[.int .i64 i, .int .i64 o, .slice B n k]) ∧ Hid (Bld w' w.heap.size (.slice B n k) (Mc.mkN p n i o es).r vs) ∧ Below w.heap.size w w' := by
  refine (mof_any a b d p A c es n i o w hr hl ha hb hd hn hi ho).mono ?_
  rintro e w' ⟨V, vs, rfl, hB, hbl⟩
  obtain ⟨B, k, rfl, _, _, _, hrd⟩ := hB.out.rd
  rw [Mc.mkN_len] at hB ⊢
  exact ⟨B, k, vs, rfl, hB, hbl⟩
/-- What is known behind the two machines that are made. -/
structure SmR (w : World) (a b : Ma) (G H : Nat) (R S : Option Addr) (n m c d : Nat) (i o i' o' : Int) (wx : World) : Prop where
  ne : G ≠ H
  bg : BxM wx G i o R n c
  bh : BxM wx H i' o' S m d
  ra : RdR wx R a.r
  rb : RdR wx S b.r
  bel : Below w.heap.size w wx

set_option maxRecDepth 100000 in
set_option maxHeartbeats 4000000 in
theorem lawSame_walk {E : World → Prop} (P : Pm E) (a b d : Int) (p : Bool) (A : Option Addr) (c : Nat) (es : List Int) (a' b' d' : Int) (p' : Bool) (A' : Option Addr) (c' : Nat) (es' : List Int) (ri ro : Int) (X : Option Addr) (cx : Nat) (rs : List (List Ed)) (w : World)
    (he : E w) (hr : Rd16 w A es) (hl : es.length ≤ 9223372036854775807) (hr' : Rd16 w A' es') (hl' : es'.length ≤ 9223372036854775807) (hx : RdR w X rs)
    (ha : 0 ≤ a ∧ a ≤ 255) (hb : 0 ≤ b ∧ b ≤ 255) (hd : 0 ≤ d ∧ d ≤ 255) (ha' : 0 ≤ a' ∧ a' ≤ 255) (hb' : 0 ≤ b' ∧ b' ≤ 255) (hd' : 0 ≤ d' ∧ d' ≤ 255) :
    Calls Try.prog 8 #[.agg #[.int .u8 a, .int .u8 b, .int .u8 d, .bool p, .slice A es.length c], .agg #[.int .u8 a', .int .u8 b', .int .u8 d', .bool p', .slice A' es'.length c'], .agg #[.int .i64 ri, .int .i64 ro, .slice X rs.length cx]] w fun e w' => e = .returned (.bool true) ∧ Below w.heap.size w w' := by
  obtain ⟨n, hn⟩ : ∃ n : Nat, 1 + a % 6 = n := ⟨(1 + a % 6).toNat, by omega⟩
  obtain ⟨i, hi⟩ : ∃ i : Nat, 1 + b % 3 = i := ⟨(1 + b % 3).toNat, by omega⟩
  obtain ⟨o, ho⟩ : ∃ o : Nat, 1 + d % 3 = o := ⟨(1 + d % 3).toNat, by omega⟩
  obtain ⟨n', hn'⟩ : ∃ n' : Nat, 1 + a' % 6 = n' := ⟨(1 + a' % 6).toNat, by omega⟩
  obtain ⟨i', hi'⟩ : ∃ i' : Nat, 1 + b' % 3 = i' := ⟨(1 + b' % 3).toNat, by omega⟩
  obtain ⟨o', ho'⟩ : ∃ o' : Nat, 1 + d' % 3 = o' := ⟨(1 + d' % 3).toNat, by omega⟩
  have CM := fun w hr => mofB_at a b d p A c es n i o w hr hl ha hb hd hn hi ho
  have CN := fun w hr => mofB_at a' b' d' p' A' c' es' n' i' o' w hr hl' ha' hb' hd' hn' hi' ho'
  have hn6 : n ≤ 6 := by omega
  have hn6' : n' ≤ 6 := by omega
  have ho3 : o ≤ 3 := by omega
  have V := Lib.hid (Mc.mkN_val (p := p) (n := n) (i := i) (o := o) (es := es) (by omega) (by omega) (by omega) (by omega) (by omega) (by omega))
  have V' := Lib.hid (Mc.mkN_val (p := p') (n := n') (i := i') (o := o') (es := es') (by omega) (by omega) (by omega) (by omega) (by omega) (by omega))
  have hlen : Hid ((Mc.mkN p n i o es).r.length = n) := Mc.mkN_len _ _ _ _ _
  have hlen' : Hid ((Mc.mkN p' n' i' o' es').r.length = n') := Mc.mkN_len _ _ _ _ _
  have hmi : Hid ((Mc.mkN p n i o es).i = i) := rfl
  have hmo : Hid ((Mc.mkN p n i o es).o = o) := rfl
  have hmi' : Hid ((Mc.mkN p' n' i' o' es').i = i') := rfl
  have hmo' : Hid ((Mc.mkN p' n' i' o' es').o = o') := rfl
  obtain ⟨M, hM⟩ : ∃ M, Mc.mkN p n i o es = M := ⟨_, rfl⟩
  obtain ⟨N, hN⟩ : ∃ N, Mc.mkN p' n' i' o' es' = N := ⟨_, rfl⟩
  rw [hM] at V hlen hmi hmo
  rw [hN] at V' hlen' hmi' hmo'
  simp only [hM] at CM
  simp only [hN] at CN
  clear hM hN ha hb hd hn hi ho hl ha' hb' hd' hn' hi' ho' hl'
  have hrow := Lib.hid (fun row (hrow : row ∈ M.r) => (show row.length ≤ 1000000 by have := V.out.len row hrow; have h2 := V.out.i1; omega))
  have hrow' := Lib.hid (fun row (hrow : row ∈ N.r) => (show row.length ≤ 1000000 by have := V'.out.len row hrow; have h2 := V'.out.i1; omega))
  have mm : (⟨i, o, M.r⟩ : Ma) = M := by rw [← hmi.out, ← hmo.out]
  have mn : (⟨i', o', N.r⟩ : Ma) = N := by rw [← hmi'.out, ← hmo'.out]
  obtain ⟨K, hK⟩ : ∃ K : Ma, (⟨ri, ro, rs⟩ : Ma) = K := ⟨_, rfl⟩
  have hKr : Hid (K.r = rs) := by show _ = _; rw [← hK]
  have hKi : Hid (K.i = ri) := by show _ = _; rw [← hK]
  have hKo : Hid (K.o = ro) := by show _ = _; rw [← hK]
  obtain ⟨L, hL⟩ : ∃ L, rs.length = L := ⟨_, rfl⟩
  have CG := fun w hx => great_any ri ro rs X L cx w hx hL
  rw [hL]
  have HL := Lib.hid hL
  clear hL
  have HR := Lib.hid hr
  have HR' := Lib.hid hr'
  have HX := Lib.hid hx
  have s0 := MK.start he
  clear he hr hr' hx
  by_cases hg : Mc.grt rs = 1
  · rw [hg] at CG
    clear hg
    go_enter Try.func8, Try.ntmps8
    have s1 := ((s0.alloc P (.cells #[.int .u8 a, .int .u8 b, .int .u8 d, .bool p, .slice A es.length c] 57)).alloc P (.cells #[.int .u8 a', .int .u8 b', .int .u8 d', .bool p', .slice A' es'.length c'] 57)).alloc P (.cells #[.int .i64 ri, .int .i64 ro, .slice X L cx] 24)
    go_wp2_with fail
    refine (CG _ (HX.out.below s1.2.1)).mono ?_
    rintro e w1 ⟨rfl, hbl⟩
    have s2 := s1.next P hbl
    go_wp2
    go_ret
    exact ⟨rfl, s2.2.1⟩
  obtain ⟨g, hgg, hg1⟩ : ∃ g, Mc.grt rs = g ∧ (g == 1) = false := ⟨_, rfl, by rw [beq_eq_false_iff_ne]; exact hg⟩
  have hgr := Lib.hid (Mc.grt_ok hg)
  rw [hgg] at CG
  clear hg hgg
  have hL70 : L ≤ 70 := by rw [← HL.out]; exact hgr.out.1
  have hrowK := Lib.hid (fun row (h : row ∈ rs) => (show row.length ≤ 1000000 by have := hgr.out.2 row h; omega))
  go_enter Try.func8, Try.ntmps8
  have s1 := ((((s0.alloc P (.cells #[.int .u8 a, .int .u8 b, .int .u8 d, .bool p, .slice A es.length c] 57)).putO (g := w.heap.size) (heap_alloc_new w _)).alloc P (.cells #[.int .u8 a', .int .u8 b', .int .u8 d', .bool p', .slice A' es'.length c'] 57)).putO (g := w.heap.size + 1) (by
      have h := heap_alloc_new (w.alloc (.cells #[.int .u8 a, .int .u8 b, .int .u8 d, .bool p, .slice A es.length c] 57)) (.cells #[.int .u8 a', .int .u8 b', .int .u8 d', .bool p', .slice A' es'.length c'] 57)
      rw [show (w.alloc (.cells #[.int .u8 a, .int .u8 b, .int .u8 d, .bool p, .slice A es.length c] 57)).heap.size = w.heap.size + 1 by simp] at h
      exact h)).alloc P (.cells #[.int .i64 ri, .int .i64 ro, .slice X L cx] 24) |>.putB (g := w.heap.size + 2) (i := ri) (o := ro) (A := X) (n := L) (c := cx) (by
      have h := heap_alloc_new ((w.alloc (.cells #[.int .u8 a, .int .u8 b, .int .u8 d, .bool p, .slice A es.length c] 57)).alloc (.cells #[.int .u8 a', .int .u8 b', .int .u8 d', .bool p', .slice A' es'.length c'] 57)) (.cells #[.int .i64 ri, .int .i64 ro, .slice X L cx] 24)
      rw [show ((w.alloc (.cells #[.int .u8 a, .int .u8 b, .int .u8 d, .bool p, .slice A es.length c] 57)).alloc (.cells #[.int .u8 a', .int .u8 b', .int .u8 d', .bool p', .slice A' es'.length c'] 57)).heap.size = w.heap.size + 2 by simp] at h
      exact h)
  clear s0
  go_wp2_with fail
  refine (CG _ (HX.out.below s1.2.1)).mono ?_
  rintro e w1 ⟨rfl, hbl⟩
  have s2 := (s1.next P hbl).putR (HX.out.below (below_next s1.2.1 hbl))
  clear s1 hbl CG
  go_upto_region 3 with fail
  clear hg1
  have hw01 := s2.2.1
  have hoA : w1.heap[w.heap.size]? = some (.cells #[.int .u8 a, .int .u8 b, .int .u8 d, .bool p, .slice A es.length c] 57) := s2.get 3 rfl
  have hoB : w1.heap[w.heap.size + 1]? = some (.cells #[.int .u8 a', .int .u8 b', .int .u8 d', .bool p', .slice A' es'.length c'] 57) := s2.get 2 rfl
  have hKS : ∀ W : World, Below w1.heap.size w1 W → (W.cell? ⟨w.heap.size, 0, none⟩ = some (.int .u8 a) ∧ W.cell? ⟨w.heap.size, 1, none⟩ = some (.int .u8 b) ∧ W.cell? ⟨w.heap.size, 2, none⟩ = some (.int .u8 d) ∧ W.cell? ⟨w.heap.size, 3, none⟩ = some (.bool p) ∧ W.cell? ⟨w.heap.size, 4, none⟩ = some (.slice A es.length c) ∧
      W.cell? ⟨w.heap.size + 1, 0, none⟩ = some (.int .u8 a') ∧ W.cell? ⟨w.heap.size + 1, 1, none⟩ = some (.int .u8 b') ∧ W.cell? ⟨w.heap.size + 1, 2, none⟩ = some (.int .u8 d') ∧ W.cell? ⟨w.heap.size + 1, 3, none⟩ = some (.bool p') ∧ W.cell? ⟨w.heap.size + 1, 4, none⟩ = some (.slice A' es'.length c')) := fun W hW => by
    have h1 := (hW.block _ (heap_lt hoA)).trans hoA
    have h2 := (hW.block _ (heap_lt hoB)).trans hoB
    refine ⟨?_, ?_, ?_, ?_, ?_, ?_, ?_, ?_, ?_, ?_⟩
    all_goals
      first
        | (rw [cell_of_row _ _ _ _ _ _ h1]; rfl)
        | (rw [cell_of_row _ _ _ _ _ _ h2]; rfl)
  clear hoA hoB
  have HKS := Lib.hid hKS
  clear hKS
  go_cut [7, 8] from 13 to 16 (fun u v wx => ∃ (G H : Nat) (R S : Option Addr) (c1 c2 : Nat), u = .pointer (some ⟨G, 0, none⟩) ∧ v = .pointer (some ⟨H, 0, none⟩) ∧ Hid (SmR w1 M N G H R S n n' c1 c2 i o i' o' wx))
  case first =>
    go_region_held3 (fun W => W.cell? ⟨w.heap.size, 0, none⟩ = some (.int .u8 a) ∧ W.cell? ⟨w.heap.size, 1, none⟩ = some (.int .u8 b) ∧ W.cell? ⟨w.heap.size, 2, none⟩ = some (.int .u8 d) ∧ W.cell? ⟨w.heap.size, 3, none⟩ = some (.bool p) ∧ W.cell? ⟨w.heap.size, 4, none⟩ = some (.slice A es.length c) ∧
      W.cell? ⟨w.heap.size + 1, 0, none⟩ = some (.int .u8 a') ∧ W.cell? ⟨w.heap.size + 1, 1, none⟩ = some (.int .u8 b') ∧ W.cell? ⟨w.heap.size + 1, 2, none⟩ = some (.int .u8 d') ∧ W.cell? ⟨w.heap.size + 1, 3, none⟩ = some (.bool p') ∧ W.cell? ⟨w.heap.size + 1, 4, none⟩ = some (.slice A' es'.length c'))
      ((refine HKS.out _ ?_; repeat (with_reducible (first | refine bS ?_ (by omega) _ | refine bA ?_ _ | refine bD ?_ | exact Below.refl _ _ | refine below_next ?_ (by assumption)))))
      (first
        | (go_at_call 28
           (with_reducible refine (CM _ (HR.out.below (below_next hw01 (by repeat (with_reducible (first | refine bA ?_ _ | refine bD ?_ | exact Below.refl _ _ | refine below_next ?_ (by assumption))))))).mono ?_)
           rintro e wA ⟨R, c1, vsR, rfl, hBR, hbA⟩
           have zA := hbA.size
           try simp at zA
           try (with_reducible have bA0 := BxM.toD (BxM.new1 w1) hbA)
           try (with_reducible have bA0 := BxM.toD ((BxM.new1 w1).al zM) hbA)
           try (with_reducible have bA1 := BxM.toD (BxM.new2 w1 zM) hbA)
           try obtain ⟨⟨x00, x01, x02⟩, ⟨x03, x04, x05⟩, x06⟩ := bA0.all
           try obtain ⟨⟨x10, x11, x12⟩, ⟨x13, x14, x15⟩, x16⟩ := bA1.all
           dsimp only)
        | (go_at_call 28
           (with_reducible refine (CN _ (HR'.out.below (below_next hw01 (by repeat (with_reducible (first | refine bA ?_ _ | refine bD ?_ | exact Below.refl _ _ | refine below_next ?_ (by assumption))))))).mono ?_)
           rintro e wB ⟨S, c2, vsS, rfl, hBS, hbB⟩
           have zB := hbB.size
           try simp at zB
           try (with_reducible have bB0 := BxM.to bA0 hbB)
           try (with_reducible have bB0 := BxM.to (bA0.al zM) hbB)
           try (with_reducible have bB1 := BxM.to bA1 hbB)
           try (with_reducible have bB2 := BxM.to (BxM.new1 wA) hbB)
           try (with_reducible have bB2 := BxM.to ((BxM.new1 wA).al zM) hbB)
           try (with_reducible have bB3 := BxM.to (BxM.new2 wA zM) hbB)
           try obtain ⟨⟨y00, y01, y02⟩, ⟨y03, y04, y05⟩, y06⟩ := bB0.all
           try obtain ⟨⟨y10, y11, y12⟩, ⟨y13, y14, y15⟩, y16⟩ := bB1.all
           try obtain ⟨⟨y20, y21, y22⟩, ⟨y23, y24, y25⟩, y26⟩ := bB2.all
           try obtain ⟨⟨y30, y31, y32⟩, ⟨y33, y34, y35⟩, y36⟩ := bB3.all
           dsimp only)
        | fail)
    all_goals
      go_wp2_with fail
      go_meet
      refine ⟨_, _, R, S, c1, c2, rfl, rfl, ?_⟩
      refine ⟨by omega, ?_, ?_, ?_, ?_, ?_⟩
      · repeat (with_reducible (first | exact BxM.new _ _ _ _ _ _ | exact BxM.newS _ _ _ _ _ _ _ _ _ _ | exact BxM.newB2 _ _ _ _ _ _ _ | exact BxM.set3 (by first | assumption | exact BxM.al (by assumption) _) | refine BxM.far3 ?_ (by omega) _ _ _ | refine BxM.al ?_ _))
      · repeat (with_reducible (first | exact BxM.new _ _ _ _ _ _ | exact BxM.newS _ _ _ _ _ _ _ _ _ _ | exact BxM.newB2 _ _ _ _ _ _ _ | exact BxM.set3 (by first | assumption | exact BxM.al (by assumption) _) | exact BxM.set3 (BxM.far3 (by assumption) (by omega) _ _ _) | refine BxM.far3 ?_ (by omega) _ _ _ | refine BxM.al ?_ _))
      · refine Bld.two (Bld.mid hBR.out ?_)
        repeat (with_reducible (first | refine Mid.set3 ?_ (by first | (simp; omega) | simp | omega) _ _ _ | refine Mid.alloc ?_ _ | exact Mid.refl _ _ | refine Mid.next ?_ hbB))
      · refine Bld.two (Bld.mid hBS.out ?_)
        repeat (with_reducible (first | refine Mid.set3 ?_ (by first | (simp; omega) | simp | omega) _ _ _ | refine Mid.alloc ?_ _ | exact Mid.refl _ _))
      · repeat (with_reducible (first | refine bS ?_ (by omega) _ | refine bA ?_ _ | refine bD ?_ | exact Below.refl _ _ | refine below_next ?_ (by assumption)))
  case rest =>
  obtain ⟨G, H, R, S, c1, c2, rfl, rfl, hS⟩ := hcut
  have s3 := ((((s2.next P hS.out.bel).putR hS.out.ra).putR hS.out.rb).putB hS.out.bg).putB hS.out.bh
  clear s2 hS hw01 HKS CM CN HR HR'
  have hE3 := s3.1
  obtain ⟨β, hβ⟩ : ∃ β, decide (M = N) = β := ⟨_, rfl⟩
  have hβ2 : decide (N = M) = β := by rw [← hβ]; simp only [eq_comm]
  have A1 := fun w he ha hb => P.same i o i' o' M.r N.r R S n c1 n' c2 w he ha hb hlen.out (by omega) hrow.out hlen'.out (by omega) hrow'.out
  have A2 := fun w ha hb => rmsame_at M N i o i' o' R S n c1 n' c2 w hmi.out hmo.out hmi'.out hmo'.out hlen.out hlen'.out ha hb (by omega) hrow.out
  have A3 := fun w he ha hb => P.same i' o' i o N.r M.r S R n' c2 n c1 w he hb ha hlen'.out (by omega) hrow'.out hlen.out (by omega) hrow.out
  have A4 := fun w he ha => P.same i o i o M.r M.r R R n c1 n c1 w he ha ha hlen.out (by omega) hrow.out hlen.out (by omega) hrow.out
  simp only [mm, mn, Mc.samV_left V.out, hβ] at A1
  simp only [hβ] at A2
  simp only [mm, mn, Mc.samV_left V'.out, hβ2] at A3
  simp only [mm, show Mc.samV M M = true by rw [Mc.samV_left V.out]; simp] at A4
  clear hβ hβ2
  have hββ : (β == β) = true := beq_self_eq_true _
  obtain ⟨m0, m1, m2⟩ := BxM.cells (s3.get 1 rfl)
  obtain ⟨o0, o1, o2⟩ := BxM.cells (s3.get 0 rfl)
  have hlm : G < wc.heap.size := heap_lt (s3.get 1 rfl)
  have hlo : H < wc.heap.size := heap_lt (s3.get 0 rfl)
  have f0 : ∀ x : BW wc, x.out.cell? ⟨G, 0, none⟩ = some (.int .i64 i) := fun x => (x.ok.cell (p := ⟨_, _, none⟩) hlm).trans m0
  have f1 : ∀ x : BW wc, x.out.cell? ⟨G, 1, none⟩ = some (.int .i64 o) := fun x => (x.ok.cell (p := ⟨_, _, none⟩) hlm).trans m1
  have f2 : ∀ x : BW wc, x.out.cell? ⟨G, 2, none⟩ = some (.slice R n c1) := fun x => (x.ok.cell (p := ⟨_, _, none⟩) hlm).trans m2
  have f3 : ∀ x : BW wc, x.out.cell? ⟨H, 0, none⟩ = some (.int .i64 i') := fun x => (x.ok.cell (p := ⟨_, _, none⟩) hlo).trans o0
  have f4 : ∀ x : BW wc, x.out.cell? ⟨H, 1, none⟩ = some (.int .i64 o') := fun x => (x.ok.cell (p := ⟨_, _, none⟩) hlo).trans o1
  have f5 : ∀ x : BW wc, x.out.cell? ⟨H, 2, none⟩ = some (.slice S n' c2) := fun x => (x.ok.cell (p := ⟨_, _, none⟩) hlo).trans o2
  have HRM := Lib.hid (show RdR wc R M.r from s3.get 3 rfl)
  have HRN := Lib.hid (show RdR wc S N.r from s3.get 2 rfl)
  clear m0 m1 m2 o0 o1 o2 mn
  go_wp2_with fail
  refine wp_region_quiet_below (by kernel_rfl) (by kernel_rfl) ?_
  repeat (go_big_quiet_step ((rename_i x; first
    | ((with_reducible refine (A1 _ (P.keep hE3 x.ok) (HRM.out.below x.ok) (HRN.out.below x.ok)).mono ?_); rintro e w2 ⟨rfl, hb2⟩; exact ⟨rfl, ⟨w2, below_next x.ok hb2⟩, rfl⟩)
    | ((with_reducible refine (A2 _ (HRM.out.below x.ok) (HRN.out.below x.ok)).mono ?_); rintro e w2 ⟨rfl, hb2⟩; exact ⟨rfl, ⟨w2, below_next x.ok hb2⟩, rfl⟩)
    | ((with_reducible refine (A3 _ (P.keep hE3 x.ok) (HRM.out.below x.ok) (HRN.out.below x.ok)).mono ?_); rintro e w2 ⟨rfl, hb2⟩; exact ⟨rfl, ⟨w2, below_next x.ok hb2⟩, rfl⟩)
    | ((with_reducible refine (A4 _ (P.keep hE3 x.ok) (HRM.out.below x.ok)).mono ?_); rintro e w2 ⟨rfl, hb2⟩; exact ⟨rfl, ⟨w2, below_next x.ok hb2⟩, rfl⟩))))
  refine wpQuiet_nil ?_
  intro w11 hw11
  obtain ⟨⟨wx, hbW⟩, hw3⟩ := hw11
  dsimp only at hw3
  subst hw3
  have s4 := s3.next P hbW
  clear s3 f0 f1 f2 f3 f4 f5 A1 A2 A3 A4 hββ HRM HRN hE3 hlm hlo hbW
  obtain ⟨m0, m1, m2⟩ := BxM.cells (s4.get 1 rfl)
  go_wp2_with fail
  clear m0 m1 m2
  have s5 := (s4.alloc P (.cells #[.int .i64 i, .int .i64 ((o : Int) + 1), .slice R n c1] 24)).putB (g := w11.heap.size) (heap_alloc_new w11 _)
  clear s4
  obtain ⟨W, hW⟩ : ∃ W, w11.alloc (.cells #[.int .i64 i, .int .i64 ((o : Int) + 1), .slice R n c1] 24) = W := ⟨_, rfl⟩
  rw [hW] at s5 ⊢
  clear hW
  have hE5 := s5.1
  obtain ⟨γ, hγ⟩ : ∃ γ, decide (M = K) = γ := ⟨_, rfl⟩
  obtain ⟨f, hf⟩ : ∃ f, Mc.chk K = f := ⟨_, rfl⟩
  have hne : decide (M = (⟨i, (o : Int) + 1, M.r⟩ : Ma)) = false := decide_eq_false fun e => by
    have h1 := congrArg Ma.o e
    have h2 := hmo.out
    simp only at h1
    omega
  have B1 := fun w he ha => P.same i o i ((o : Int) + 1) M.r M.r R R n c1 n c1 w he ha ha hlen.out (by omega) hrow.out hlen.out (by omega) hrow.out
  have B2 := fun w he ha hb => P.same i o ri ro M.r rs R X n c1 L cx w he ha hb hlen.out (by omega) hrow.out HL.out (by omega) hrowK.out
  have B3 := fun w ha hb => rmsame_at M ⟨ri, ro, rs⟩ i o ri ro R X n c1 L cx w hmi.out hmo.out rfl rfl hlen.out HL.out ha hb (by omega) hrow.out
  have B4 := fun w hb => rmcheck_at ⟨ri, ro, rs⟩ ri ro X L cx w rfl rfl HL.out hb (by omega)
  have B5 := fun w he hb => P.same ri ro ri ro rs rs X X L cx L cx w he hb hb HL.out (by omega) hrowK.out HL.out (by omega) hrowK.out
  simp only [mm, Mc.samV_left V.out, hne] at B1
  simp only [mm, hK, Mc.samV_left V.out, hγ] at B2
  simp only [hK, hγ] at B3
  simp only [hK, hf] at B4
  simp only [hK, Mc.samV_self, hf] at B5
  have HK := Lib.hid hK
  clear hne mm hK hγ hf
  have hγγ : (γ == γ) = true := beq_self_eq_true _
  obtain ⟨m0, m1, m2⟩ := BxM.cells (s5.get 2 rfl)
  obtain ⟨o0, o1, o2⟩ := BxM.cells (s5.get 0 rfl)
  obtain ⟨k0, k1, k2⟩ := BxM.cells (s5.get 6 rfl)
  have hlm : G < W.heap.size := heap_lt (s5.get 2 rfl)
  have hlo : w11.heap.size < W.heap.size := heap_lt (s5.get 0 rfl)
  have hlk : w.heap.size + 2 < W.heap.size := heap_lt (s5.get 6 rfl)
  have f0 : ∀ x : BW W, x.out.cell? ⟨G, 0, none⟩ = some (.int .i64 i) := fun x => (x.ok.cell (p := ⟨_, _, none⟩) hlm).trans m0
  have f1 : ∀ x : BW W, x.out.cell? ⟨G, 1, none⟩ = some (.int .i64 o) := fun x => (x.ok.cell (p := ⟨_, _, none⟩) hlm).trans m1
  have f2 : ∀ x : BW W, x.out.cell? ⟨G, 2, none⟩ = some (.slice R n c1) := fun x => (x.ok.cell (p := ⟨_, _, none⟩) hlm).trans m2
  have f3 : ∀ x : BW W, x.out.cell? ⟨w11.heap.size, 0, none⟩ = some (.int .i64 i) := fun x => (x.ok.cell (p := ⟨_, _, none⟩) hlo).trans o0
  have f4 : ∀ x : BW W, x.out.cell? ⟨w11.heap.size, 1, none⟩ = some (.int .i64 ((o : Int) + 1)) := fun x => (x.ok.cell (p := ⟨_, _, none⟩) hlo).trans o1
  have f5 : ∀ x : BW W, x.out.cell? ⟨w11.heap.size, 2, none⟩ = some (.slice R n c1) := fun x => (x.ok.cell (p := ⟨_, _, none⟩) hlo).trans o2
  have f6 : ∀ x : BW W, x.out.cell? ⟨w.heap.size + 2, 0, none⟩ = some (.int .i64 ri) := fun x => (x.ok.cell (p := ⟨_, _, none⟩) hlk).trans k0
  have f7 : ∀ x : BW W, x.out.cell? ⟨w.heap.size + 2, 1, none⟩ = some (.int .i64 ro) := fun x => (x.ok.cell (p := ⟨_, _, none⟩) hlk).trans k1
  have f8 : ∀ x : BW W, x.out.cell? ⟨w.heap.size + 2, 2, none⟩ = some (.slice X L cx) := fun x => (x.ok.cell (p := ⟨_, _, none⟩) hlk).trans k2
  have HRM := Lib.hid (show RdR W R M.r from s5.get 4 rfl)
  have HRK := Lib.hid (show RdR W X rs from s5.get 5 rfl)
  clear m0 m1 m2 o0 o1 o2 k0 k1 k2
  have hbF := s5.2.1
  by_cases hf0 : f = 0
  · subst hf0
    go_wp2_with fail
    refine wp_region_quiet_below (by kernel_rfl) (by kernel_rfl) ?_
    repeat (go_big_quiet_step ((rename_i x; first
      | ((with_reducible refine (B1 _ (P.keep hE5 x.ok) (HRM.out.below x.ok)).mono ?_); rintro e w2 ⟨rfl, hb2⟩; exact ⟨rfl, ⟨w2, below_next x.ok hb2⟩, rfl⟩)
      | ((with_reducible refine (B2 _ (P.keep hE5 x.ok) (HRM.out.below x.ok) (HRK.out.below x.ok)).mono ?_); rintro e w2 ⟨rfl, hb2⟩; exact ⟨rfl, ⟨w2, below_next x.ok hb2⟩, rfl⟩)
      | ((with_reducible refine (B3 _ (HRM.out.below x.ok) (HRK.out.below x.ok)).mono ?_); rintro e w2 ⟨rfl, hb2⟩; exact ⟨rfl, ⟨w2, below_next x.ok hb2⟩, rfl⟩)
      | ((with_reducible refine (B4 _ (HRK.out.below x.ok)).mono ?_); rintro e w2 ⟨rfl, hb2⟩; exact ⟨rfl, ⟨w2, below_next x.ok hb2⟩, rfl⟩)
      | ((with_reducible refine (lives_walk P _ (P.keep hE5 x.ok)).mono ?_); rintro e w2 ⟨rfl, hb2⟩; exact ⟨rfl, ⟨w2, below_next x.ok hb2⟩, rfl⟩))))
    refine wpQuiet_nil ?_
    intro w12 hw12
    obtain ⟨⟨wx, hbW⟩, hw3⟩ := hw12
    dsimp only at hw3
    subst hw3
    clear f0 f1 f2 f3 f4 f5 f6 f7 f8 B1 B2 B3 B4 B5
    go_wp2
    go_ret
    exact ⟨rfl, below_next hbF hbW⟩
  · have hfb : (f == 0) = false := by rw [beq_eq_false_iff_ne]; exact hf0
    simp only [hfb] at B5
    clear hf0
    go_wp2_with fail
    refine wp_region_quiet_below (by kernel_rfl) (by kernel_rfl) ?_
    repeat (go_big_quiet_step ((rename_i x; first
      | ((with_reducible refine (B1 _ (P.keep hE5 x.ok) (HRM.out.below x.ok)).mono ?_); rintro e w2 ⟨rfl, hb2⟩; exact ⟨rfl, ⟨w2, below_next x.ok hb2⟩, rfl⟩)
      | ((with_reducible refine (B2 _ (P.keep hE5 x.ok) (HRM.out.below x.ok) (HRK.out.below x.ok)).mono ?_); rintro e w2 ⟨rfl, hb2⟩; exact ⟨rfl, ⟨w2, below_next x.ok hb2⟩, rfl⟩)
      | ((with_reducible refine (B3 _ (HRM.out.below x.ok) (HRK.out.below x.ok)).mono ?_); rintro e w2 ⟨rfl, hb2⟩; exact ⟨rfl, ⟨w2, below_next x.ok hb2⟩, rfl⟩)
      | ((with_reducible refine (B4 _ (HRK.out.below x.ok)).mono ?_); rintro e w2 ⟨rfl, hb2⟩; exact ⟨rfl, ⟨w2, below_next x.ok hb2⟩, rfl⟩)
      | ((with_reducible refine (B5 _ (P.keep hE5 x.ok) (HRK.out.below x.ok)).mono ?_); rintro e w2 ⟨rfl, hb2⟩; exact ⟨rfl, ⟨w2, below_next x.ok hb2⟩, rfl⟩)
      | ((with_reducible refine (lives_walk P _ (P.keep hE5 x.ok)).mono ?_); rintro e w2 ⟨rfl, hb2⟩; exact ⟨rfl, ⟨w2, below_next x.ok hb2⟩, rfl⟩))))
    refine wpQuiet_nil ?_
    intro w12 hw12
    obtain ⟨⟨wx, hbW⟩, hw3⟩ := hw12
    dsimp only at hw3
    subst hw3
    clear f0 f1 f2 f3 f4 f5 f6 f7 f8 B1 B2 B3 B4 B5
    go_wp2
    go_ret
    exact ⟨rfl, below_next hbF hbW⟩
end Go.Proofs.Ytiohfflkolopeaa
