/-
  The walk of WalksIsomorphic. No statement is proved here.
-/
import Derived.Test.YthemaombpddbbaaWfZ
import Derived.Test.YthemaombpddbbaaWeZ
import Derived.Deep.RegionHeld3
import Derived.Deep.CutRange
namespace Go.Proofs.Ythemaombpddbbaa
open Go.RowKit
open Mc (Ed Ma)

theorem own_formH {w : World} {base : Nat} {v : Value} {x : List Int} (h : OwI w base v x) (hp : 0 < x.length) : ∃ g c, v = .slice (some ⟨g, 0, none⟩) x.length c := by
  rcases h.2 with ⟨_, h0⟩ | ⟨g, c, cu, e, _⟩
  · omega
  · exact ⟨g, c, e⟩
theorem own_box {w : World} {base s n : Nat} {e : TypeId} {v : Value} {xs : List Value} (h : w.ownsRow base e s v n xs) {g nn cc : Nat} {i o : Int} {A : Option Addr} (hb : BxM w g i o A nn cc) (he : e ≠ 30) (x y z : Value) : (set3 w g x y z).ownsRow base e s v n xs := by
  refine ⟨h.1, ?_⟩
  rcases h.2 with h0 | ⟨g', cap, cur, e1, hb1, hg, rest⟩
  · exact .inl h0
  · have hne : g' ≠ g := fun e2 => by
      subst e2
      unfold BxM at hb
      rw [hb] at hg
      injection hg with hg
      injection hg with _ hg
      exact he hg.symm
    exact .inr ⟨g', cap, cur, e1, hb1, ((Below.heap_setCell _ _ _ _ hne).trans ((Below.heap_setCell _ _ _ _ hne).trans (Below.heap_setCell _ _ _ _ hne))).trans hg, rest⟩
theorem Bld.box {w : World} {base : Nat} {V : Value} {rs : List (List Ed)} {vs : List Value} (h : Bld w base V rs vs) {g nn cc : Nat} {i o : Int} {A : Option Addr} (hb : BxM w g i o A nn cc) (x y z : Value) : Bld (Go.Proofs.Ythemaombpddbbaa.set3 w g x y z) base V rs vs :=
  ⟨own_box h.1 hb (by decide) x y z, fun k row hk => by
    obtain ⟨g', c, h1, h2⟩ := h.2 k row hk
    exact ⟨g', c, h1, own_box h2 hb (by decide) x y z⟩⟩
theorem Bld.belowB {w w' : World} {base : Nat} {V : Value} {rs : List (List Ed)} {vs : List Value} (h : Bld w base V rs vs) (hb : Below w.heap.size w w') : Bld w' base V rs vs :=
  ⟨own_below h.1 hb, fun k row hk => by
    obtain ⟨g', c, h1, h2⟩ := h.2 k row hk
    exact ⟨g', c, h1, own_below h2 hb⟩⟩
/-- What is known behind the two machines that are made. -/
structure IsR (w : World) (a b : Ma) (G H : Nat) (R S : Option Addr) (n m c d : Nat) (i o i' o' : Int) (wx : World) : Prop where
  ne : G ≠ H
  bg : BxM wx G i o R n c
  bh : BxM wx H i' o' S m d
  ra : ∃ base vs, Bld wx base (.slice R n c) a.r vs
  rb : RdR wx S b.r
  hh : w.heap.size ≤ H
  bel : Below w.heap.size w wx
/-- Block g holds the words l, each in a slice that has room for it. -/
def Wy (g : Nat) (l : List (List Int)) (W : World) : Prop := ∀ (k : Nat) (x : List Int), l[k]? = some x → ∃ A c, W.cell? ⟨g, k, none⟩ = some (.slice A x.length c) ∧ x.length ≤ c ∧ Rd W A x
theorem Wy.kept (g : Nat) (l : List (List Int)) : Kept (Wy g l) := fun w w' h hb k x hk => by
  obtain ⟨A, c, h1, h0, h2⟩ := h k x hk
  exact ⟨A, c, Cl.kept _ _ w w' h1 hb, h0, h2.below hb⟩
theorem Ws.wy {w : World} {g base : Nat} {l : List (List Int)} (h : Ws w g base l) : Wy g l w := fun k x hk => by
  obtain ⟨v, h1, y, h2, h3⟩ := h.cell (List.getElem?_eq_some_iff.1 hk).1
  rw [hk] at h2
  injection h2 with h2
  subst h2
  obtain ⟨A, c, rfl, h4⟩ := own_formI h3
  exact ⟨A, c, h1, h4, Rd.of_own h3⟩
theorem racc_to (m : Ma) (i o : Int) (A : Option Addr) (n c : Nat) (w : World) (v : Mc.Val m) (hi : m.i = i) (ho : m.o = o) (hn : m.r.length = n) (hr : RdR w A m.r) :
    Calls Try.prog 26 #[.agg #[.int .i64 i, .int .i64 o, .slice A n c]] w fun e w' => ∃ g1 g2, e = .returned (.tuple #[.slice (some ⟨g1, 0, none⟩) n n, .slice (some ⟨g2, 0, none⟩) n n]) ∧ Wy g1 (Mc.tab Mc.oW (Mc.wk m 0) n) w' ∧ BlkB w' g2 (Mc.tab Mc.oB (Mc.wk m 0) n) ∧ Below w.heap.size w w' := by
  have hr0 := v.r0
  have hss : (0 : Int) ≤ 0 ∧ (0 : Int) < m.r.length := by omega
  have C := access_any m A c w v hr
  rw [← hi, ← ho, ← hn]
  refine C.mono ?_
  rintro e w' ⟨g1, g2, k, base, l, is, rfl, h1, h2, h3, h4, _, hb⟩
  obtain ⟨x, h5, h6⟩ := h4.out
  obtain ⟨rfl, rfl⟩ := h5.tabs v hss h6
  have h1 := h1.out
  subst h1
  exact ⟨g1, g2, rfl, h2.out.wy, h3.out, hb⟩
namespace Mc
theorem isoE_ok {a b : Ma} (va : Val a) (vb : Val b) : isoE a b = 0 := by
  unfold isoE
  rw [if_neg (by rw [chk_of va]; simp)]
  exact chk_of vb
theorem isoB_ok {a b : Ma} (va : Val a) (vb : Val b) : isoB a b = decide (prt a (ord a) = prt b (ord b)) := by
  unfold isoB
  rw [if_neg (by rw [isoE_ok va vb]; simp)]
theorem isoV_no {a b : Ma} (h : isoB a b = false) : isoV a b = [] := by unfold isoV; rw [h]; rfl
theorem isoV_yes {a b : Ma} (h : isoB a b = true) : isoV a b = cor (ord a) (ord b) a.r.length (ord a).length := by unfold isoV; rw [h]; rfl
/-- What Isomorphic answers with for a state. -/
noncomputable def isoAt (a b : Ma) (s : Nat) : Int := if oB ((wk a 0).lookup (s : Int)) = true then aft b 0 (oW ((wk a 0).lookup (s : Int))) else -1
theorem isoV_at {a b : Ma} (va : Val a) (vb : Val b) (h : isoB a b = true) {s : Nat} (hs : s < a.r.length) : (isoV a b)[s]? = some (isoAt a b s) := by
  rw [isoV_yes h]
  rw [isoB_ok va vb] at h
  exact iso_at va vb (of_decide_eq_true h) hs
theorem isoV_len {a b : Ma} (h : isoB a b = true) : (isoV a b).length = a.r.length := by rw [isoV_yes h, cor_len]
end Mc
theorem iso_two (a b : Ma) (i o i' o' : Int) (A B : Option Addr) (n c k d : Nat) (w : World) (va : Mc.Val a) (vb : Mc.Val b) (hi : a.i = i) (ho : a.o = o) (hi' : b.i = i') (ho' : b.o = o') (hn : a.r.length = n) (hk : b.r.length = k) (hr : RdR w A a.r) (hq : RdR w B b.r) :
    Calls Try.prog 25 #[.agg #[.int .i64 i, .int .i64 o, .slice A n c], .agg #[.int .i64 i', .int .i64 o', .slice B k d]] w fun e w' => ∃ B' k', e = .returned (.tuple #[.slice B' k' k', .bool (Mc.isoB a b), .int .i64 0]) ∧ Hid ((Mc.isoV a b).length = k') ∧ Rd w' B' (Mc.isoV a b) ∧ Below w.heap.size w w' := by
  subst hi ho hi' ho'
  have h1 := va.r1
  have h2 := vb.r1
  refine (wiso_any a b A B n c k d w hr hq hn hk (by omega) (by omega) va.rows vb.rows).mono ?_
  rintro e w' ⟨B', k', rfl, hV, hR, hb⟩
  rw [Mc.isoE_ok va vb]
  exact ⟨B', k', rfl, hV, hR, hb⟩

set_option maxRecDepth 100000 in
set_option maxHeartbeats 4000000 in
theorem lawIso_walk (a b d : Int) (p : Bool) (A : Option Addr) (c : Nat) (es : List Int) (a' b' d' : Int) (p' : Bool) (A' : Option Addr) (c' : Nat) (es' : List Int) (x0 x1 : Int) (w : World)
    (hr : Rd16 w A es) (hr' : Rd16 w A' es') (hl : es.length ≤ 9223372036854775807) (hl' : es'.length ≤ 9223372036854775807)
    (ha : 0 ≤ a ∧ a ≤ 255) (hb : 0 ≤ b ∧ b ≤ 255) (hd : 0 ≤ d ∧ d ≤ 255) (ha' : 0 ≤ a' ∧ a' ≤ 255) (hb' : 0 ≤ b' ∧ b' ≤ 255) (hd' : 0 ≤ d' ∧ d' ≤ 255) (hx0 : 0 ≤ x0 ∧ x0 ≤ 255) (hx1 : 0 ≤ x1 ∧ x1 ≤ 255) :
    Calls Try.prog 4 #[.agg #[.int .u8 a, .int .u8 b, .int .u8 d, .bool p, .slice A es.length c], .agg #[.int .u8 a', .int .u8 b', .int .u8 d', .bool p', .slice A' es'.length c'], .agg #[.int .u8 x0, .int .u8 x1]] w fun e w' => e = .returned (.bool true) ∧ Below w.heap.size w w' := by
  obtain ⟨n, hn⟩ : ∃ n : Nat, 1 + a % 6 = n := ⟨(1 + a % 6).toNat, by omega⟩
  obtain ⟨i, hi⟩ : ∃ i : Nat, 1 + b % 3 = i := ⟨(1 + b % 3).toNat, by omega⟩
  obtain ⟨o, ho⟩ : ∃ o : Nat, 1 + d % 3 = o := ⟨(1 + d % 3).toNat, by omega⟩
  obtain ⟨n', hn'⟩ : ∃ n' : Nat, 1 + a' % 6 = n' := ⟨(1 + a' % 6).toNat, by omega⟩
  obtain ⟨i', hi'⟩ : ∃ i' : Nat, 1 + b' % 3 = i' := ⟨(1 + b' % 3).toNat, by omega⟩
  obtain ⟨o', ho'⟩ : ∃ o' : Nat, 1 + d' % 3 = o' := ⟨(1 + d' % 3).toNat, by omega⟩
  have CM := fun w hr => mofB_at a b d p A c es n i o w hr hl ha hb hd hn hi ho
  have CN := fun w hr => mofB_at a' b' d' p' A' c' es' n' i' o' w hr hl' ha' hb' hd' hn' hi' ho'
  have hn1 : 1 ≤ n := by omega
  have hn6 : n ≤ 6 := by omega
  have hn6' : n' ≤ 6 := by omega
  have V := Lib.hid (Mc.mkN_val (p := p) (n := n) (i := i) (o := o) (es := es) (by omega) (by omega) (by omega) (by omega) (by omega) (by omega))
  have V' := Lib.hid (Mc.mkN_val (p := p') (n := n') (i := i') (o := o') (es := es') (by omega) (by omega) (by omega) (by omega) (by omega) (by omega))
  have hlen : Hid ((Mc.mkN p n i o es).r.length = n) := Mc.mkN_len _ _ _ _ _
  have hlen' : Hid ((Mc.mkN p' n' i' o' es').r.length = n') := Mc.mkN_len _ _ _ _ _
  have hmi : Hid ((Mc.mkN p n i o es).i = i) := rfl
  have hmo : Hid ((Mc.mkN p n i o es).o = o) := rfl
  have hmi' : Hid ((Mc.mkN p' n' i' o' es').i = i') := rfl
  have hmo' : Hid ((Mc.mkN p' n' i' o' es').o = o') := rfl
  obtain ⟨M, hM⟩ : ∃ M, Mc.mkN p n i o es = M := ⟨_, rfl⟩
  obtain ⟨N, hN⟩ : ∃ N, Mc.mkN p' n' i' o' es' = N := ⟨_, rfl⟩
  rw [hM] at V hlen hmi hmo
  rw [hN] at V' hlen' hmi' hmo'
  simp only [hM] at CM
  simp only [hN] at CN
  clear hM hN ha hb hd hn hi ho hl ha' hb' hd' hn' hi' ho' hl'
  have HR := Lib.hid hr
  have HR' := Lib.hid hr'
  clear hr hr'
  obtain ⟨K0, hK0⟩ : ∃ K0, w.heap.size = K0 := ⟨_, rfl⟩
  have s0 : MT w w [] := MT.start
  have s1 := MT.putK (P := fun w => w.heap[K0]? = some (.cells #[.int .u8 a, .int .u8 b, .int .u8 d, .bool p, .slice A es.length c] 24)) (MT.alloc s0 (.cells #[.int .u8 a, .int .u8 b, .int .u8 d, .bool p, .slice A es.length c] 24))
    (by
      have h := heap_alloc_new w (.cells #[.int .u8 a, .int .u8 b, .int .u8 d, .bool p, .slice A es.length c] 24)
      rw [hK0] at h
      exact h) (fun _ _ h hb => (hb.block _ (heap_lt h)).trans h)
  have s2 := MT.putK (P := fun w => w.heap[K0 + 1]? = some (.cells #[.int .u8 a', .int .u8 b', .int .u8 d', .bool p', .slice A' es'.length c'] 24)) (MT.alloc s1 (.cells #[.int .u8 a', .int .u8 b', .int .u8 d', .bool p', .slice A' es'.length c'] 24))
    (by
      have h := heap_alloc_new (w.alloc (.cells #[.int .u8 a, .int .u8 b, .int .u8 d, .bool p, .slice A es.length c] 24)) (.cells #[.int .u8 a', .int .u8 b', .int .u8 d', .bool p', .slice A' es'.length c'] 24)
      rw [show (w.alloc (.cells #[.int .u8 a, .int .u8 b, .int .u8 d, .bool p, .slice A es.length c] 24)).heap.size = w.heap.size + 1 by simp, hK0] at h
      exact h) (fun _ _ h hb => (hb.block _ (heap_lt h)).trans h)
  have s3 := MT.putK (P := fun w => w.heap[K0 + 1 + 1]? = some (.cells #[.int .u8 x0, .int .u8 x1] 47)) (MT.alloc s2 (.cells #[.int .u8 x0, .int .u8 x1] 47))
    (by
      have h := heap_alloc_new ((w.alloc (.cells #[.int .u8 a, .int .u8 b, .int .u8 d, .bool p, .slice A es.length c] 24)).alloc (.cells #[.int .u8 a', .int .u8 b', .int .u8 d', .bool p', .slice A' es'.length c'] 24)) (.cells #[.int .u8 x0, .int .u8 x1] 47)
      rw [show ((w.alloc (.cells #[.int .u8 a, .int .u8 b, .int .u8 d, .bool p, .slice A es.length c] 24)).alloc (.cells #[.int .u8 a', .int .u8 b', .int .u8 d', .bool p', .slice A' es'.length c'] 24)).heap.size = w.heap.size + 1 + 1 by simp, hK0] at h
      exact h) (fun _ _ h hb => (hb.block _ (heap_lt h)).trans h)
  clear s0 s1 s2
  go_enter Try.func4, Try.ntmps4
  go_upto_region 1 with fail
  obtain ⟨w1, hW0⟩ : ∃ W0, ((w.alloc (.cells #[.int .u8 a, .int .u8 b, .int .u8 d, .bool p, .slice A es.length c] 24)).alloc (.cells #[.int .u8 a', .int .u8 b', .int .u8 d', .bool p', .slice A' es'.length c'] 24)).alloc (.cells #[.int .u8 x0, .int .u8 x1] 47) = W0 := ⟨_, rfl⟩
  rw [hW0] at s3
  rw [hW0]
  clear hW0
  have hw01 := s3.2.1
  have hoA : w1.heap[K0]? = some (.cells #[.int .u8 a, .int .u8 b, .int .u8 d, .bool p, .slice A es.length c] 24) := MK.get s3 2 rfl
  have hoB : w1.heap[K0 + 1]? = some (.cells #[.int .u8 a', .int .u8 b', .int .u8 d', .bool p', .slice A' es'.length c'] 24) := MK.get s3 1 rfl
  have hKS : ∀ W : World, Below w1.heap.size w1 W → (W.cell? ⟨K0, 0, none⟩ = some (.int .u8 a) ∧ W.cell? ⟨K0, 1, none⟩ = some (.int .u8 b) ∧ W.cell? ⟨K0, 2, none⟩ = some (.int .u8 d) ∧ W.cell? ⟨K0, 3, none⟩ = some (.bool p) ∧ W.cell? ⟨K0, 4, none⟩ = some (.slice A es.length c) ∧
      W.cell? ⟨K0 + 1, 0, none⟩ = some (.int .u8 a') ∧ W.cell? ⟨K0 + 1, 1, none⟩ = some (.int .u8 b') ∧ W.cell? ⟨K0 + 1, 2, none⟩ = some (.int .u8 d') ∧ W.cell? ⟨K0 + 1, 3, none⟩ = some (.bool p') ∧ W.cell? ⟨K0 + 1, 4, none⟩ = some (.slice A' es'.length c')) := fun W hW => by
    have h1 := (hW.block _ (heap_lt hoA)).trans hoA
    have h2 := (hW.block _ (heap_lt hoB)).trans hoB
    refine ⟨?_, ?_, ?_, ?_, ?_, ?_, ?_, ?_, ?_, ?_⟩
    all_goals
      first
        | (rw [cell_of_row _ _ _ _ _ _ h1]; rfl)
        | (rw [cell_of_row _ _ _ _ _ _ h2]; rfl)
  clear hoA hoB
  have HKS := Lib.hid hKS
  clear hKS
  go_cut [7, 8] from 21 to 145 (fun u v wx => ∃ (G H : Nat) (R S : Option Addr) (c1 c2 : Nat), u = .pointer (some ⟨G, 0, none⟩) ∧ v = .pointer (some ⟨H, 0, none⟩) ∧ Hid (IsR w1 M N G H R S n n' c1 c2 i o i' o' wx))
  case first =>
    go_region_held3 (fun W => W.cell? ⟨K0, 0, none⟩ = some (.int .u8 a) ∧ W.cell? ⟨K0, 1, none⟩ = some (.int .u8 b) ∧ W.cell? ⟨K0, 2, none⟩ = some (.int .u8 d) ∧ W.cell? ⟨K0, 3, none⟩ = some (.bool p) ∧ W.cell? ⟨K0, 4, none⟩ = some (.slice A es.length c) ∧
      W.cell? ⟨K0 + 1, 0, none⟩ = some (.int .u8 a') ∧ W.cell? ⟨K0 + 1, 1, none⟩ = some (.int .u8 b') ∧ W.cell? ⟨K0 + 1, 2, none⟩ = some (.int .u8 d') ∧ W.cell? ⟨K0 + 1, 3, none⟩ = some (.bool p') ∧ W.cell? ⟨K0 + 1, 4, none⟩ = some (.slice A' es'.length c'))
      ((refine HKS.out _ ?_; repeat (with_reducible (first | refine bS ?_ (by omega) _ | refine bA ?_ _ | refine bD ?_ | exact Below.refl _ _ | refine below_next ?_ (by assumption)))))
      (first
        | (go_at_call 14
           (with_reducible refine (CM _ (HR.out.below (below_next hw01 (by repeat (with_reducible (first | refine bA ?_ _ | refine bD ?_ | exact Below.refl _ _ | refine below_next ?_ (by assumption))))))).mono ?_)
           rintro e wA ⟨R, c1, vsR, rfl, hBR, hbA⟩
           have zA := hbA.size
           try simp at zA
           try (with_reducible have bA0 := BxM.toD (BxM.new1 w1) hbA)
           try (with_reducible have bA0 := BxM.toD ((BxM.new1 w1).al zM) hbA)
           try (with_reducible have bA1 := BxM.toD (BxM.new2 w1 zM) hbA)
           try obtain ⟨⟨x00, x01, x02⟩, ⟨x03, x04, x05⟩, x06⟩ := bA0.all
           try obtain ⟨⟨x10, x11, x12⟩, ⟨x13, x14, x15⟩, x16⟩ := bA1.all
           dsimp only)
        | (go_at_call 14
           (with_reducible refine (CN _ (HR'.out.below (below_next hw01 (by repeat (with_reducible (first | refine bA ?_ _ | refine bD ?_ | exact Below.refl _ _ | refine below_next ?_ (by assumption))))))).mono ?_)
           rintro e wB ⟨S, c2, vsS, rfl, hBS, hbB⟩
           have zB := hbB.size
           try simp at zB
           try (with_reducible have bB0 := BxM.to bA0 hbB)
           try (with_reducible have bB0 := BxM.to (bA0.al zM) hbB)
           try (with_reducible have bB1 := BxM.to bA1 hbB)
           try (with_reducible have bB2 := BxM.to (BxM.new1 wA) hbB)
           try (with_reducible have bB2 := BxM.to ((BxM.new1 wA).al zM) hbB)
           try (with_reducible have bB3 := BxM.to (BxM.new2 wA zM) hbB)
           try obtain ⟨⟨y00, y01, y02⟩, ⟨y03, y04, y05⟩, y06⟩ := bB0.all
           try obtain ⟨⟨y10, y11, y12⟩, ⟨y13, y14, y15⟩, y16⟩ := bB1.all
           try obtain ⟨⟨y20, y21, y22⟩, ⟨y23, y24, y25⟩, y26⟩ := bB2.all
           try obtain ⟨⟨y30, y31, y32⟩, ⟨y33, y34, y35⟩, y36⟩ := bB3.all
           dsimp only)
        | fail)
    all_goals
      go_wp2_with fail
      go_meet
      refine ⟨_, _, R, S, c1, c2, rfl, rfl, ?_⟩
      refine ⟨by omega, ?_, ?_, ?_, ?_, by omega, ?_⟩
      · repeat (with_reducible (first | exact BxM.new _ _ _ _ _ _ | exact BxM.newS _ _ _ _ _ _ _ _ _ _ | exact BxM.newB2 _ _ _ _ _ _ _ | exact BxM.set3 (by first | assumption | exact BxM.al (by assumption) _) | refine BxM.far3 ?_ (by omega) _ _ _ | refine BxM.al ?_ _))
      · repeat (with_reducible (first | exact BxM.new _ _ _ _ _ _ | exact BxM.newS _ _ _ _ _ _ _ _ _ _ | exact BxM.newB2 _ _ _ _ _ _ _ | exact BxM.set3 (by first | assumption | exact BxM.al (by assumption) _) | exact BxM.set3 (BxM.far3 (by assumption) (by omega) _ _ _) | refine BxM.far3 ?_ (by omega) _ _ _ | refine BxM.al ?_ _))
      · refine ⟨_, vsR, Bld.mid hBR.out ?_⟩
        repeat (with_reducible (first | refine Mid.set3 ?_ (by first | (simp; omega) | simp | omega) _ _ _ | refine Mid.alloc ?_ _ | exact Mid.refl _ _ | refine Mid.next ?_ hbB))
      · refine Bld.two (Bld.mid hBS.out ?_)
        repeat (with_reducible (first | refine Mid.set3 ?_ (by first | (simp; omega) | simp | omega) _ _ _ | refine Mid.alloc ?_ _ | exact Mid.refl _ _))
      · repeat (with_reducible (first | refine bS ?_ (by omega) _ | refine bA ?_ _ | refine bD ?_ | exact Below.refl _ _ | refine below_next ?_ (by assumption)))
  case rest =>
  obtain ⟨G, H, R, S, c1, c2, rfl, rfl, hS⟩ := hcut
  have ⟨w2, hw2⟩ : ∃ q, q = wc := ⟨_, rfl⟩
  rw [← hw2] at hS ⊢
  clear hw2
  have S3 := Lib.hid s3
  have s4 := MT.next s3 hS.out.bel
  clear hw01 HKS CM CN HR HR' s3
  have hlw : Hid (w1.heap.size ≤ H ∧ H < w2.heap.size) := ⟨hS.out.hh, heap_lt hS.out.bh⟩
  have hpl : w2.heap[K0 + 1 + 1]? = some (.cells #[.int .u8 x0, .int .u8 x1] 47) := MK.get s4 0 rfl
  have l0 : w2.cell? ⟨K0 + 1 + 1, 0, none⟩ = some (.int .u8 x0) := by rw [cell_of_row _ _ _ _ _ _ hpl]; rfl
  obtain ⟨m0, m1, m2⟩ := BxM.cells hS.out.bg
  clear hpl
  go_upto_region 2 with fail
  obtain ⟨γ, hγ⟩ : ∃ γ, ((x0 % 2 == 0) && decide ((1 : Int) < n)) = γ := ⟨_, rfl⟩
  have HG := Lib.hid hγ
  clear hγ
  go_cut [34] from 21 to 145 (fun f wx => f = .bool γ ∧ wx = w2)
  case first =>
    obtain ⟨β, hβ⟩ : ∃ β, decide ((1 : Int) < n) = β := ⟨_, rfl⟩
    by_cases h1 : x0 % 2 = 0
    · have t1 : (x0 % 2 == 0) = true := by simp [h1]
      have hB : Hid (γ = β) := by show _ = _; rw [← HG.out, t1, hβ]; rfl
      clear h1
      go_wp2
      go_meet
      exact ⟨by rw [hB.out], rfl⟩
    · have t1 : (x0 % 2 == 0) = false := by simp [h1]
      have hB : Hid (γ = false) := by show _ = _; rw [← HG.out, t1]; rfl
      clear h1
      go_wp2
      go_meet
      exact ⟨by rw [hB.out], rfl⟩
  case rest =>
  obtain ⟨rfl, rfl⟩ := hcut
  go_upto_if 34 with fail
  go_cut [6] from 9 to 145 (fun f wx => f = .bool false ∧ ∃ (N2 : Ma) (S2 : Option Addr) (m2 d2 i2 o2 : Nat), Hid (Mc.Val N2) ∧ Hid (N2.i = i2) ∧ Hid (N2.o = o2) ∧ Hid (N2.r.length = m2) ∧ Hid (IsR w1 M N2 G H R S2 n m2 c1 d2 i o i2 o2 wx))
  case first =>
    cases γ with
    | false =>
      clear l0 m0 m1 m2
      go_wp2
      go_meet
      exact ⟨rfl, N, S, n', c2, i', o', V', hmi', hmo', hlen', hS⟩
    | true =>
      have h1n : 1 < n := by
        have h := HG.out
        simp only [Bool.and_eq_true, decide_eq_true_eq] at h
        omega
      have hpl : wc.heap[K0 + 1 + 1]? = some (.cells #[.int .u8 x0, .int .u8 x1] 47) := MK.get s4 0 rfl
      have hK1 : K0 + 1 + 1 < wc.heap.size := heap_lt hpl
      clear l0 HG V' hmi' hmo' hlen'
      go_wp2_with fail
      clear m0 m1 m2
      have HS := Lib.hid hS.out
      go_loopw [9, 10] (fun l v wr => ∃ k : Nat, k ≤ n ∧ v = .int .i64 k ∧ Hid (OwI wr wc.heap.size l (Mc.iota k)) ∧ Hid (Below wc.heap.size wc wr)) (fun _ v _ => n - (intOf v).toNat)
      case atStart => exact ⟨0, by omega, rfl, OwI.nil_ _ _, Below.refl _ _⟩
      case round =>
        obtain ⟨k, hk, rfl, hO, hbr⟩ := hrel
        obtain ⟨m0, m1, m2⟩ := BxM.cells (BxM.to HS.out.bg hbr.out)
        by_cases hlt : k < n
        · have hkn : (k : Int) < n := by omega
          have hklen := Mc.iota_len k
          have hSq : Hid (Rd (wr.alloc (.cells #[.int .i64 k] 3)) (some ⟨wr.heap.size, 0, none⟩) [(k : Int)]) := Rd.of_block (t := 3) (heap_alloc_new wr _)
          have hO3 : Hid (OwI (wr.alloc (.cells #[.int .i64 k] 3)) wc.heap.size u9 (Mc.iota k)) := own_below hO.out ((Below.refl _ _).alloc (Nat.le_refl _) _)
          have hb3 := Lib.hid (hbr.out.alloc hbr.out.size (.cells #[.int .i64 k] 3))
          clear hO
          go_wp2_with (at_builtin; refine wpList_append_list _ (W0 := wc) (B := wc.heap.size) (xs := Mc.iota k) (ys := [(k : Int)]) hO3.out hSq.out rfl ?b1 ?b2 hb3.out rfl _ _ rfl rfl rfl ?_)
          case b1 => simp; omega
          case b2 => exact hb3.out.size
          intro v9 w12 hO4 hb4
          have hO5 : Hid (OwI w12 wc.heap.size v9 (Mc.iota (k + 1))) := by show OwI _ _ _ _; rw [Mc.iota_snoc]; exact hO4
          have HB4 := Lib.hid hb4
          clear hO4 hb4 hO3 hb3 hSq hklen m0 m1 m2
          go_wp2
          go_roundw
          case rel => exact ⟨k + 1, by omega, by go_num, hO5, HB4⟩
          case measure => simp [intOf]; omega
        · obtain rfl : k = n := by omega
          obtain ⟨g9, d9, rfl⟩ := own_formH hO.out (by rw [Mc.iota_len]; omega)
          have hOk : wr.ownsRow wc.heap.size 3 1 (.slice (some ⟨g9, 0, none⟩) k d9) k (ints (Mc.iota k)) := by
            have h : wr.ownsRow wc.heap.size 3 1 (.slice (some ⟨g9, 0, none⟩) (Mc.iota k).length d9) (Mc.iota k).length (ints (Mc.iota k)) := hO.out
            rwa [Mc.iota_len] at h
          have HOk := Lib.hid hOk
          rw [Mc.iota_len]
          have hplr : wr.heap[K0 + 1 + 1]? = some (.cells #[.int .u8 x0, .int .u8 x1] 47) := (hbr.out.block _ hK1).trans hpl
          have l0 : wr.cell? ⟨K0 + 1 + 1, 0, none⟩ = some (.int .u8 x0) := by rw [cell_of_row _ _ _ _ _ _ hplr]; rfl
          have l1 : wr.cell? ⟨K0 + 1 + 1, 1, none⟩ = some (.int .u8 x1) := by rw [cell_of_row _ _ _ _ _ _ hplr]; rfl
          obtain ⟨q, hq⟩ : ∃ q : Nat, (k : Int) - 1 = q := ⟨k - 1, by omega⟩
          have hq1 : 1 ≤ q := by omega
          obtain ⟨a0, ha0, ha1⟩ : ∃ a0 : Nat, x0.tmod (q : Int) = a0 ∧ a0 < q := ⟨(x0.tmod (q : Int)).toNat, by rw [Int.tmod_eq_emod_of_nonneg hx0.1]; have := Int.emod_nonneg x0 (show (q : Int) ≠ 0 by omega); omega, by rw [Int.tmod_eq_emod_of_nonneg hx0.1]; have := Int.emod_lt_of_pos x0 (show (0 : Int) < q by omega); have := Int.emod_nonneg x0 (show (q : Int) ≠ 0 by omega); omega⟩
          obtain ⟨b0, hb0, hb1⟩ : ∃ b0 : Nat, x1.tmod (q : Int) = b0 ∧ b0 < q := ⟨(x1.tmod (q : Int)).toNat, by rw [Int.tmod_eq_emod_of_nonneg hx1.1]; have := Int.emod_nonneg x1 (show (q : Int) ≠ 0 by omega); omega, by rw [Int.tmod_eq_emod_of_nonneg hx1.1]; have := Int.emod_lt_of_pos x1 (show (0 : Int) < q by omega); have := Int.emod_nonneg x1 (show (q : Int) ≠ 0 by omega); omega⟩
          have hw0 : IntKind.i64.wrap x0 = x0 := IntWalk.i64_in _ (by omega)
          have hw1 : IntKind.i64.wrap x1 = x1 := IntWalk.i64_in _ (by omega)
          have hn0 : ((q : Int) == 0) = false := by rw [beq_eq_false_iff_ne]; omega
          have hn0a : ¬ q = 0 := by omega
          have hqk : q + 1 = k := by omega
          clear hOk hO hpl hplr
          go_upto_region 8 with fail
          clear m0 m1 m2
          go_quiet (fail)
          clear l0 l1 hw0 hw1 hn0 hn0a ha0 hb0 hq
          have hb9 := Lib.hid (below_drewN' hbr.out nq)
          have hO9 : Hid ((wr.drewN nq).ownsRow wc.heap.size 3 1 (.slice (some ⟨g9, 0, none⟩) k d9) k (ints (Mc.iota k))) := own_below HOk.out (below_drewN' (Below.refl _ _) nq)
          obtain ⟨W9, hW9⟩ : ∃ W, wr.drewN nq = W := ⟨_, rfl⟩
          rw [hW9] at hb9 hO9
          rw [hW9]
          clear hW9 hbr HOk
          obtain ⟨L, hLd⟩ : ∃ L, Mc.iota k = L := ⟨_, rfl⟩
          have hL : Mc.Prm k L := hLd ▸ Mc.Prm.iota (by omega)
          rw [hLd] at hO9
          have hLk := hL.len
          have hOk := hO9.out
          obtain ⟨za, va, fa, hga, hza⟩ := own_cellI hOk (k := 1 + a0) (by omega)
          obtain ⟨zb, vb, fb, _, hzb⟩ := own_cellI hOk (k := 1 + b0) (by omega)
          have ea : ((1 : Int) + a0) = ((1 + a0 : Nat) : Int) := by omega
          have eb : ((1 : Int) + b0) = ((1 + b0 : Nat) : Int) := by omega
          obtain ⟨a1, ha1'⟩ : ∃ a1, 1 + a0 = a1 := ⟨_, rfl⟩
          obtain ⟨b1, hb1'⟩ : ∃ b1, 1 + b0 = b1 := ⟨_, rfl⟩
          have hak : a1 < k := by omega
          have hbk : b1 < k := by omega
          have hakI : (a1 : Int) < k := by omega
          have hbkI : (b1 : Int) < k := by omega
          rw [ha1'] at ea va fa hza
          rw [hb1'] at eb vb fb hzb
          rw [ea, eb]
          have hA1 : 1 ≤ a1 := by omega
          have hB1 : 1 ≤ b1 := by omega
          have HE := Lib.hid (And.intro hA1 hB1)
          have vb2 : (W9.setCell ⟨g9, a1, none⟩ (.int .i64 zb)).cell? ⟨g9, b1, none⟩ = some (.int .i64 zb) := by
            obtain ⟨z, hz1, _, _, hz2⟩ := own_cellI (own_setI hOk zb (k := a1)) (k := b1) hbk
            rw [hz1]
            have hz2 := hz2.out
            have hzb := hzb.out
            rw [List.getElem?_set] at hz2
            split at hz2
            · rw [if_pos (by omega)] at hz2
              rw [← hz2]; rfl
            · rw [← hz2, hzb]
          have fb2 : (W9.setCell ⟨g9, a1, none⟩ (.int .i64 zb)).frozen? ⟨g9, b1, none⟩ = false := by
            obtain ⟨_, _, hz1, _, _⟩ := own_cellI (own_setI hOk zb (k := a1)) (k := b1) hbk
            exact hz1
          have HO := Lib.hid hOk
          have HL := Lib.hid hL
          have HLk := Lib.hid hLk
          clear hqk ea eb ha1' hb1' ha1 hb1 hq1 hOk hL hLk hO9 hA1 hB1 hLd
          go_upto_region 9 with fail
          go_region
          have ez : ∀ {j : Nat} {z : Int}, j < k → L[j]?.getD 0 = z → L[j]? = some z := fun {j z} hj h => by
            rw [List.getElem?_eq_getElem (by rw [HLk.out]; exact hj)] at h ⊢
            exact congrArg some h
          obtain ⟨L2, hL2⟩ : ∃ L2, (L.set a1 zb).set b1 za = L2 := ⟨_, rfl⟩
          have hP2 : Mc.Prm k L2 := hL2 ▸ HL.out.swap HE.out.1 HE.out.2 (ez hak hza.out) (ez hbk hzb.out)
          have HP2 := Lib.hid hP2
          have hO2 : Hid (Rd ((W9.setCell ⟨g9, a1, none⟩ (.int .i64 zb)).setCell ⟨g9, b1, none⟩ (.int .i64 za)).drew (some ⟨g9, 0, none⟩) L2) := by
            have h6 := own_below (own_setI (own_setI HO.out zb (k := a1)) za (k := b1)) (Below.refl _ _).drew
            show Rd _ _ _
            rw [← hL2]
            exact Rd.of_own h6
          have hBn := Lib.hid ((hb9.out.setCell (p := ⟨g9, a1, none⟩) hga (.int .i64 zb)).setCell (p := ⟨g9, b1, none⟩) hga (.int .i64 za)).drew
          clear vb2 fb2 va vb fa fb ez HO HL HLk hza hzb hL2 hP2 HE hak hbk hakI hbkI hb9
          obtain ⟨W10, hW10⟩ : ∃ W, ((W9.setCell ⟨g9, a1, none⟩ (.int .i64 zb)).setCell ⟨g9, b1, none⟩ (.int .i64 za)).drew = W := ⟨_, rfl⟩
          rw [hW10] at hO2 hBn
          rw [hW10]
          clear hW10 hga
          obtain ⟨m0, m1, m2⟩ := BxM.cells (BxM.to HS.out.bg hBn.out)
          have HVp : Hid (Mc.Val M) := V
          have HPm : Hid (Mc.Prm M.r.length L2) := by show Mc.Prm _ _; rw [hlen.out]; exact HP2.out
          have hRR : RdR W10 R M.r := by
            obtain ⟨base, vs, hB⟩ := HS.out.ra
            exact Bld.two (Bld.belowB hB hBn.out)
          go_wp2_with fail
          clear m0 m1 m2
          refine (partB_at M i o L2 R (some ⟨g9, 0, none⟩) k c1 k d9 W10 V.out hmi.out hmo.out hlen.out hRR hO2.out HP2.out.len HP2.out.nd (by rw [hlen.out]; exact HP2.out.rg)).mono ?_
          rintro e w13 ⟨B5, k5, d5, vs5, rfl, hk5, hB5, hbl⟩
          obtain rfl : k = k5 := by rw [← HP2.out.len]; exact hk5.out
          have hb13 := below_next hBn.out hbl
          have hBH := BxM.to HS.out.bh hb13
          obtain ⟨⟨o0, o1, o2⟩, ⟨e0, e1, e2⟩, _⟩ := BxM.all hBH
          have hfin : Hid (IsR w1 M (Mc.prt M L2) G H R B5 k k c1 d5 i o i o (set3 w13 H (.int .i64 i) (.int .i64 o) (.slice B5 k d5))) := by
            refine ⟨HS.out.ne, BxM.far3 (BxM.to HS.out.bg hb13) HS.out.ne _ _ _, BxM.set3 hBH, ?_, Bld.two (Bld.box hB5.out hBH _ _ _), HS.out.hh, ?_⟩
            · obtain ⟨base, vs, hB⟩ := HS.out.ra
              exact ⟨base, vs, Bld.box (Bld.belowB hB hb13) hBH _ _ _⟩
            · exact below_set3' (below_next HS.out.bel hb13) HS.out.hh _ _ _
          have hVN : Hid (Mc.Val (Mc.prt M L2)) := HPm.out.val V.out
          have hNl : Hid ((Mc.prt M L2).r.length = k) := by show _ = _; rw [Mc.prt_len]; exact HP2.out.len
          clear hbl hB5 hb13 hBH hk5 hRR HPm HP2 hO2 hBn HVp
          go_wp2
          go_meet
          exact ⟨rfl, Mc.prt M L2, B5, k, d5, i, o, hVN, hmi, hmo, hNl, hfin⟩
  case rest =>
  clear l0 m0 m1 m2
  obtain ⟨rfl, N2, S2, m2, d2, i2, o2, V2, hi2, ho2, hm2, hS2⟩ := hcut
  have ⟨w5, hw5⟩ : ∃ q, q = wc := ⟨_, rfl⟩
  rw [← hw5] at hS2 ⊢
  clear hw5 hS s4 hlw V' hmi' hmo' hlen'
  have s5 := MT.next S3.out hS2.out.bel
  have s6 := MK.putB (MK.putB (MK.putR (MK.putR s5 hS2.out.rb) (by obtain ⟨base, vs, hB⟩ := hS2.out.ra; exact Bld.two hB)) hS2.out.bh) hS2.out.bg
  clear s5 hS2 S3 HG
  have hm64 : m2 ≤ 64 := by rw [← hm2.out]; exact V2.out.r1
  obtain ⟨β, hβ⟩ : ∃ β, Mc.isoB M N2 = β := ⟨_, rfl⟩
  obtain ⟨VV, hVV⟩ : ∃ VV, Mc.isoV M N2 = VV := ⟨_, rfl⟩
  have CI := fun w hr hq => iso_two M N2 i o i2 o2 R S2 n c1 m2 d2 w V.out V2.out hmi.out hmo.out hi2.out ho2.out hlen.out hm2.out hr hq
  simp only [hβ, hVV] at CI
  obtain ⟨C, hC⟩ : ∃ C, Mc.prt M (Mc.ord M) = C := ⟨_, rfl⟩
  obtain ⟨D, hD⟩ : ∃ D, Mc.prt N2 (Mc.ord N2) = D := ⟨_, rfl⟩
  obtain ⟨KC, hKC⟩ : ∃ K, C.r.length = K := ⟨_, rfl⟩
  obtain ⟨KD, hKD⟩ : ∃ K, D.r.length = K := ⟨_, rfl⟩
  have VC : Hid (Mc.Val C) := hC ▸ Mc.can_val V.out
  have VD : Hid (Mc.Val D) := hD ▸ Mc.can_val V2.out
  have hCi : Hid (C.i = i) := by show _ = _; rw [← hC]; exact hmi.out
  have hCo : Hid (C.o = o) := by show _ = _; rw [← hC]; exact hmo.out
  have hDi : Hid (D.i = i2) := by show _ = _; rw [← hD]; exact hi2.out
  have hDo : Hid (D.o = o2) := by show _ = _; rw [← hD]; exact ho2.out
  have hKC64 : KC ≤ 64 := by rw [← hKC]; exact VC.out.r1
  have CR := Lib.hid (fun w hr => rcanon_to M R n c1 w i o C KC V.out hmi.out hmo.out hlen.out hr hC hKC)
  have CR2 := Lib.hid (fun w hr => rcanon_to N2 S2 m2 d2 w i2 o2 D KD V2.out hi2.out ho2.out hm2.out hr hD hKD)
  have hβ2 : decide (C = D) = β := by rw [← hβ, Mc.isoB_ok V.out V2.out, hC, hD]
  have CS := fun B5 d5 B6 d6 w hR hB => rmsame_at C D i o i2 o2 B5 B6 KC d5 KD d6 w hCi.out hCo.out hDi.out hDo.out hKC hKD hR hB (by omega) VC.out.rows
  simp only [hβ2] at CS
  have HCS := Lib.hid CS
  have HB := Lib.hid hβ
  have HVV := Lib.hid hVV
  clear hC hD hKC hKD hβ hβ2 hVV CS hCi hCo hDi hDo VC VD
  obtain ⟨m0, m1, m2'⟩ := BxM.cells (MK.get s6 0 rfl)
  obtain ⟨o0, o1, o2'⟩ := BxM.cells (MK.get s6 1 rfl)
  go_wp2_with fail
  clear m0 m1 m2' o0 o1 o2'
  refine (CI _ (MK.get s6 2 rfl) (MK.get s6 3 rfl)).mono ?_
  rintro e w6 ⟨B', k', rfl, hV, hR', hbl⟩
  have s7 := MK.putL (MT.next s6 hbl) hR'
  clear s6 hR' hbl CI
  go_upto_region 12 with fail
  go_cut [16] from 21 to 145 (fun f wx => f = .bool β ∧ Below w6.heap.size w6 wx)
  case first =>
    have sD := MT.next s7 (Below.refl _ _).drew
    have y0 : Below w6.heap.size w6 w6.drew := (Below.refl _ _).drew
    obtain ⟨a0, a1, a2⟩ := BxM.cells (MK.get s7 1 rfl)
    obtain ⟨a3, a4, a5⟩ := BxM.cells (MK.get s7 2 rfl)
    go_region_held3 (fun w' => w'.cell? ⟨G, 0, none⟩ = some (.int .i64 i) ∧ w'.cell? ⟨G, 1, none⟩ = some (.int .i64 o) ∧ w'.cell? ⟨G, 2, none⟩ = some (.slice R n c1) ∧ w'.cell? ⟨H, 0, none⟩ = some (.int .i64 i2) ∧ w'.cell? ⟨H, 1, none⟩ = some (.int .i64 o2) ∧ w'.cell? ⟨H, 2, none⟩ = some (.slice S2 m2 d2))
      (first | exact ⟨x30, x31, x32, x33, x34, x35⟩ | exact ⟨x20, x21, x22, x23, x24, x25⟩ | exact ⟨x10, x11, x12, x13, x14, x15⟩ | exact ⟨a0, a1, a2, a3, a4, a5⟩ | go_keep)
      (first
        | (go_at_call 18
           (with_reducible refine (CR.out _ (MK.get sD 3 rfl)).mono ?_)
           rintro e wa1 ⟨B5, d5, rfl, hr5, hb1⟩
           have t1 := MK.putR (MT.next sD hb1) hr5
           have y1 := below_next y0 hb1
           obtain ⟨x10, x11, x12⟩ := BxM.cells (MK.get t1 2 rfl)
           obtain ⟨x13, x14, x15⟩ := BxM.cells (MK.get t1 3 rfl)
           dsimp only)
        | (go_at_call 18
           (with_reducible refine (CR2.out _ (MK.get t1 5 rfl)).mono ?_)
           rintro e wa2 ⟨B6, d6, rfl, hr6, hb2⟩
           have t2 := MK.putR (MT.next t1 hb2) hr6
           have y2 := below_next y1 hb2
           obtain ⟨x20, x21, x22⟩ := BxM.cells (MK.get t2 3 rfl)
           obtain ⟨x23, x24, x25⟩ := BxM.cells (MK.get t2 4 rfl)
           dsimp only)
        | (go_at_call 22
           (with_reducible refine (HCS.out B5 d5 B6 d6 _ (MK.get t2 1 rfl) (MK.get t2 0 rfl)).mono ?_)
           rintro e wa3 ⟨rfl, hb3⟩
           have t3 := MT.next t2 hb3
           have y3 := below_next y2 hb3
           obtain ⟨x30, x31, x32⟩ := BxM.cells (MK.get t3 3 rfl)
           obtain ⟨x33, x34, x35⟩ := BxM.cells (MK.get t3 4 rfl)
           dsimp only)
        | fail)
    all_goals
      go_wp2_with fail
      go_meet
      exact ⟨rfl, y3⟩
  case rest =>
  obtain ⟨rfl, hbc⟩ := hcut
  have ⟨w7, hw7⟩ : ∃ q, q = wc := ⟨_, rfl⟩
  rw [← hw7] at hbc ⊢
  clear hw7
  have s8 := MT.next s7 hbc
  clear s7 hbc CR CR2 HCS
  have hbb : (β != β) = false := by simp
  cases β with
  | false =>
    obtain rfl : k' = 0 := by
      have h1 := hV.out
      rw [← HVV.out, Mc.isoV_no HB.out] at h1
      exact h1.symm
    go_wp2_with fail
    refine (lives_walk _).mono ?_
    rintro e w9 ⟨rfl, hb9⟩
    have hfin := below_next s8.2.1 hb9
    clear s8
    go_wp2
    go_ret
    exact ⟨rfl, hfin⟩
  | true =>
    obtain rfl : k' = n := by
      have h1 := hV.out
      rw [← HVV.out, Mc.isoV_len HB.out, hlen.out] at h1
      exact h1.symm
    have HVat : Hid (∀ s, s < k' → VV[s]? = some (Mc.isoAt M N2 s)) := fun s hs => by
      rw [← HVV.out]
      exact Mc.isoV_at V.out V2.out HB.out (by rw [hlen.out]; exact hs)
    obtain ⟨Q, hQ⟩ : ∃ Q, Mc.wk M 0 = Q := ⟨_, rfl⟩
    have HQ := Lib.hid hQ
    have CA := fun w hr => racc_to M i o R k' c1 w V.out hmi.out hmo.out hlen.out hr
    simp only [hQ] at CA
    clear hQ
    obtain ⟨m0, m1, m2'⟩ := BxM.cells (MK.get s8 1 rfl)
    go_wp2_with fail
    clear m0 m1 m2'
    refine (CA _ (MK.get s8 3 rfl)).mono ?_
    rintro e w9 ⟨g1, g2, rfl, hW, hO, hbl⟩
    have s9 := MK.putO (MK.put (MT.next s8 hbl) (Wy.kept _ _) hW) hO
    clear s8 hW hO hbl CA
    have hnn : ((k' : Int) != k') = false := by simp
    go_wp2
    have SF := Lib.hid s9
    clear s9 hnn
    have CF := fun w W k d ws hr hk hw hwd hd => rafter_at N2 i2 o2 S2 m2 d2 w 0 W k d ws V2.out hi2.out ho2.out hm2.out hk hr hw (Or.inr (by have := hm2.out; have := V2.out.r0; omega)) hwd hd
    go_loopw [19] (fun v wr => ∃ k : Nat, k ≤ k' ∧ v = .int .i64 k ∧ Hid (Below w9.heap.size w9 wr)) (fun v _ => k' - (intOf v).toNat)
    case atStart => exact ⟨0, by omega, rfl, Below.refl _ _⟩
    case round =>
      obtain ⟨k, hk, rfl, hbr⟩ := hrel
      have sK := MT.next SF.out hbr.out
      by_cases hlt : k < k'
      · have hkn : (k : Int) < k' := by omega
        have cb := BlkB.val (MK.get sK 0 rfl) (Mc.tab_at (f := Mc.oB) (Q := Q) hlt)
        have hat := HVat.out k hlt
        obtain ⟨bV, oV, rfl, cv⟩ := Rd.val (MK.get sK 2 rfl) hat
        obtain ⟨z, hz⟩ : ∃ z, Mc.isoAt M N2 k = z := ⟨_, rfl⟩
        rw [hz] at cv
        have HZ := Lib.hid hz
        obtain ⟨Ar, cr, cl2, hdc, hAr⟩ : ∃ A c, wr.cell? ⟨g1, k, none⟩ = some (.slice A (Mc.oW (Q.lookup (k : Int))).length c) ∧ (Mc.oW (Q.lookup (k : Int))).length ≤ c ∧ Rd wr A (Mc.oW (Q.lookup (k : Int))) := (MK.get sK 1 rfl) k _ (Mc.tab_at hlt)
        obtain ⟨α, hα⟩ : ∃ α, Mc.oB (Q.lookup (k : Int)) = α := ⟨_, rfl⟩
        rw [hα] at cb
        have HA := Lib.hid hα
        clear hz hα hat
        cases α with
        | false =>
          have hz1 : z = -1 := by
            rw [← HZ.out]
            unfold Mc.isoAt
            rw [HQ.out, HA.out]
            rfl
          subst hz1
          clear HZ HA hAr cl2 hdc sK CF
          go_wp2
          go_roundw
          case rel => exact ⟨k + 1, by omega, by go_num, hbr⟩
          case measure => simp [intOf]; omega
        | true =>
          have hz1 : z = Mc.aft N2 0 (Mc.oW (Q.lookup (k : Int))) := by
            rw [← HZ.out]
            unfold Mc.isoAt
            rw [HQ.out, HA.out]
            rfl
          have hwd : Mc.Wd N2 (Mc.oW (Q.lookup (k : Int))) := by
            have h1 := HB.out
            rw [Mc.isoB_ok V.out V2.out] at h1
            have := Mc.iso_wd V.out (of_decide_eq_true h1) (s := (k : Int))
            rwa [HQ.out] at this
          obtain ⟨Xw, hX⟩ : ∃ X, Mc.oW (Q.lookup (k : Int)) = X := ⟨_, rfl⟩
          obtain ⟨Lw, hL⟩ : ∃ L, Xw.length = L := ⟨_, rfl⟩
          rw [hX] at hwd hz1 hAr
          rw [hX, hL] at cl2
          have HL := Lib.hid hL
          have hd : Lw ≤ cr := by rw [hX, hL] at hdc; exact hdc
          have sL := MT.putC (MK.putL sK hAr) cl2
          have TL := Lib.hid sL
          have cv' := MT.putC sL cv
          have f2 : ∀ x : BW wr, x.out.cell? ⟨g1, k, none⟩ = some (.slice Ar Lw cr) := fun x => MK.get (MT.next TL.out x.ok) 0 rfl
          have f3 : ∀ x : BW wr, x.out.cell? ⟨H, 0, none⟩ = some (.int .i64 i2) := fun x => (BxM.cells (MK.get (MT.next TL.out x.ok) 6 rfl)).1
          have f4 : ∀ x : BW wr, x.out.cell? ⟨H, 1, none⟩ = some (.int .i64 o2) := fun x => (BxM.cells (MK.get (MT.next TL.out x.ok) 6 rfl)).2.1
          have f5 : ∀ x : BW wr, x.out.cell? ⟨H, 2, none⟩ = some (.slice S2 m2 d2) := fun x => (BxM.cells (MK.get (MT.next TL.out x.ok) 6 rfl)).2.2
          have CY := fun (x : BW wr) => CF x.out Ar Lw cr Xw (MK.get (MT.next TL.out x.ok) 8 rfl) HL.out (MK.get (MT.next TL.out x.ok) 1 rfl) hwd hd
          simp only [← hz1] at CY
          have SV := Lib.hid cv'
          clear sK sL hX hL cl2 hdc hAr HA HZ cv' CF
          go_upto_region 25 with fail
          refine wp_region_quiet_below (by kernel_rfl) (by kernel_rfl) ?_
          repeat (go_big_quiet_step ((rename_i x; (with_reducible refine (CY x).mono ?_); rintro e w2 ⟨rfl, hb2⟩; exact ⟨rfl, ⟨w2, below_next x.ok hb2⟩, rfl⟩)))
          refine wpQuiet_nil ?_
          intro w11 hw11
          obtain ⟨⟨wx, hbW⟩, hw12⟩ := hw11
          dsimp only at hw12
          subst hw12
          clear f2 f3 f4 f5 CY cb cv
          have cv : w11.cell? ⟨bV, oV + k, none⟩ = some (.int .i64 z) := MK.get (MT.next SV.out hbW) 0 rfl
          have hzz : (z != z) = false := by simp
          have hb9 := Lib.hid (below_next hbr.out hbW)
          clear hz1 hwd hd SV TL hbW
          go_wp2
          go_roundw
          case rel => exact ⟨k + 1, by omega, by go_num, hb9⟩
          case measure => simp [intOf]; omega
      · obtain rfl : k = k' := by omega
        go_wp2_with fail
        refine (lives_walk _).mono ?_
        rintro e w11 ⟨rfl, hb9⟩
        have hfin := below_next sK.2.1 hb9
        clear sK SF CF
        go_wp2
        go_ret
        exact ⟨rfl, hfin⟩
end Go.Proofs.Ythemaombpddbbaa
