/-
  Several texts in one: Ef0, Ef1. No statement is proved here.
-/
import Derived.Test.YtomgofgbfdcmhaaEcZ
import Derived.Test.YtomgofgbfdcmhaaEdZ
import Derived.Deep.RegionHeld3
import Derived.Deep.RegionLaw
import Derived.Deep.CutRange
namespace Go.Proofs.Ytomgofgbfdcmhaa
open Go.RowKit
open Mc (Ed Ma Wv stF Mdo Mk)

/-- A slice reads as a list of pairs of small numbers. -/
def RdP8 (w : World) (A : Option Addr) (ps : List (Int × Int)) : Prop := 0 < ps.length → ∃ b off, A = some ⟨b, off, none⟩ ∧ b < w.heap.size ∧ ∀ (k : Nat) (x : Int × Int), ps[k]? = some x → w.cell? ⟨b, off + k * 2, none⟩ = some (.int .u8 x.1) ∧ w.cell? ⟨b, off + k * 2 + 1, none⟩ = some (.int .u8 x.2) ∧ (0 ≤ x.1 ∧ x.1 ≤ 255) ∧ (0 ≤ x.2 ∧ x.2 ≤ 255)
theorem RdP8.below {w w' : World} {A : Option Addr} {ps : List (Int × Int)} (h : RdP8 w A ps) (k : Below w.heap.size w w') : RdP8 w' A ps := fun hp => by
  obtain ⟨b, off, e, hb, hc⟩ := h hp
  exact ⟨b, off, e, Nat.lt_of_lt_of_le hb k.size, fun j x hj => by
    obtain ⟨c0, c1, h2, h3⟩ := hc j x hj
    exact ⟨(k.cell (p := ⟨b, off + j * 2, none⟩) hb).trans c0, (k.cell (p := ⟨b, off + j * 2 + 1, none⟩) hb).trans c1, h2, h3⟩⟩
/-- A matrix of bools, n rows of n2 each, that the call itself builds. -/
def MxF (w : World) (base : Nat) (V : Value) (n n2 : Nat) (gs : List Nat) (f : Nat → Nat → Bool) : Prop := ∃ L, MxB w base V n2 gs L ∧ gs.length = n ∧ ∀ s t, s < n → t < n2 → (L[s]?.getD [])[t]? = some (f s t)
theorem MxF.below {w w' : World} {base n n2 : Nat} {V : Value} {gs : List Nat} {f : Nat → Nat → Bool} (h : MxF w base V n n2 gs f) (k : Below w.heap.size w w') : MxF w' base V n n2 gs f := by
  obtain ⟨L, h1, h2, h3⟩ := h
  exact ⟨L, h1.below k, h2, h3⟩
theorem MxF.at_ {w : World} {base n n2 s t : Nat} {V : Value} {gs : List Nat} {f : Nat → Nat → Bool} (h : MxF w base V n n2 gs f) (hs : s < n) (ht : t < n2) :
    ∃ p c g, V = .slice (some ⟨p, 0, none⟩) n c ∧ p < w.heap.size ∧ g < w.heap.size ∧ base ≤ g ∧ w.cell? ⟨p, s, none⟩ = some (.slice (some ⟨g, 0, none⟩) n2 n2) ∧ w.cell? ⟨g, t, none⟩ = some (.bool (f s t)) ∧ w.frozen? ⟨g, t, none⟩ = false ∧ Hid (MxF (w.setCell ⟨g, t, none⟩ (.bool true)) base V n n2 gs (stF f s t)) := by
  obtain ⟨L, h1, h2, h3⟩ := h
  obtain ⟨p, c, g, row, hv, hg, hL, hp, hc, hb, hr⟩ := h1.at_ (k := s) (by omega)
  obtain ⟨z, hz, fz, e⟩ := hb.at_ (k := t) (by omega)
  have h4 := h3 s t hs ht
  rw [hL, Option.getD_some] at h4
  have hzf : z = f s t := by
    have h5 : w.cell? ⟨g, t, none⟩ = some (.bool (f s t)) := by
      rw [cell_of_row w g t _ 4 (0, 0) hb]
      simp [h4]
    rw [hz] at h5
    injection h5 with h5
    injection h5
  rw [hzf] at hz
  refine ⟨p, c, g, by rw [hv, h2], hp, heap_lt hb, (h1.2.2.2 s g row hg hL).1, hc, hz, fz, L.set s (row.set t true), h1.set_ hg hL t true, h2, fun x y hx hy => ?_⟩
  have hsl : s < L.length := (List.getElem?_eq_some_iff.1 hL).1
  unfold stF
  by_cases hxs : x = s
  · subst hxs
    rw [List.getElem?_set_self hsl, Option.getD_some]
    by_cases hyt : y = t
    · subst hyt
      rw [List.getElem?_set_self (by omega), if_pos ⟨rfl, rfl⟩]
    · rw [List.getElem?_set_ne (by omega), if_neg (fun h => hyt h.2)]
      have := h3 x y hx hy
      rwa [hL, Option.getD_some] at this
  · rw [List.getElem?_set_ne (by omega), if_neg (fun h => hxs h.1)]
    exact h3 x y hx hy
theorem wpList_append_pairE (wr : World) {ops : Array Oper} {rest : List Oper} {o : Oper} {a : Act} {Q : Exit → Act → World → Prop} {W0 : World} {B : Nat} {v : Value} {xs : List (Int × Int)} (x y : Int)
    (hown : wr.ownsRow B 64 2 v xs.length (eC xs)) (hlen : xs.length ≤ 1000000) (hB : B ≤ wr.heap.size) (hbr : Below B W0 wr) (hgd : o.guard = none) (s z : Operand)
    (ho : o.op = .call { callee := .builtin .append, args := #[s, z], argTypes := #[58, 58] }) (hs : a.eval s = v) (hx : a.eval z = .slice (some ⟨wr.heap.size, 0, none⟩) 1 1)
    (h : ∀ v1 w1, w1.ownsRow B 64 2 v1 (xs.length + 1) (eC (xs ++ [(x, y)])) → Below B W0 w1 → w1.heap.size ≥ wr.heap.size → wpList Try.prog ops Q rest (a.put o.dst v1) w1) :
    wpList Try.prog ops Q (o :: rest) a (wr.alloc (.cells #[.int .i64 x, .int .i64 y] 64)) := by
  obtain ⟨i0, hi0, hI0, hI1, hI2⟩ := info_parts pairE_info
  refine wpList_append_own _ hgd s z 58 ho B 64 i0 (.agg #[.int .i64 0, .int .i64 0]) 2 16 Try.underlying58 hi0 hI0 hI1 hI2 rfl (by decide) v xs.length (eC xs) hs (hown.alloc _) ⟨wr.heap.size, 0, none⟩ 1 1 [.int .i64 x, .int .i64 y] hx rfl ?_ ?_ ?_ ?_ ?_ ?_
  · intro j u hj
    rw [Addr.add_lit, World.cell?_alloc_at _ _ _ _ rfl]
    match j, hj with
    | 0, hj => simpa using hj
    | 1, hj => simpa using hj
  · intro u hu
    simp at hu
    rcases hu with rfl | rfl <;> rfl
  · unfold maxLen; omega
  · omega
  · simp; omega
  · intro v1 w1 h1 hg _
    refine h v1 w1 ?_ ((hbr.alloc hB _).grown hg (by simp; omega) (fun j hj => (hown.lt j hj).1)) (by have := hg.size; simp at this; omega)
    rw [eC_app, eC_one]
    exact h1
theorem own_shapeP {w : World} {base n : Nat} {v : Value} {xs : List Value} {e : TypeId} {z : Nat} (h : w.ownsRow base e z v n xs) : ∃ A c, v = .slice A n c := by
  rcases h.2 with ⟨rfl, rfl⟩ | ⟨g, c, cu, e, _⟩
  · exact ⟨none, 0, rfl⟩
  · exact ⟨_, c, e⟩
theorem RdP.of_ownP {w : World} {base : Nat} {A : Option Addr} {n c : Nat} {row : List Ed} (h : w.ownsRow base 64 2 (.slice A n c) n (eC row)) : RdP w A row := fun hp => by
  have hn : row.length = n := by have := h.1; rw [eC_len] at this; omega
  obtain ⟨g, cap, hv, _, hlt⟩ := h.form (by omega)
  have hA : A = some ⟨g, 0, none⟩ := by injection hv
  subst hA
  refine ⟨g, 0, rfl, hlt, fun k x hk => ?_⟩
  obtain ⟨h1, h2⟩ := eC_at hk
  have hc : ∀ j v, (eC row)[j]? = some v → w.cell? ⟨g, 0 + j, none⟩ = some v := fun j v hj => by
    have := h.cells (g := g) rfl j v hj
    rw [Nat.zero_add]
    rw [Addr.add_lit] at this
    simpa using this
  exact ⟨hc _ _ h1, by have := hc _ _ h2; rwa [← Nat.add_assoc] at this⟩
/-- What Pairs hands back. -/
def PaiP (w : World) (a b : Ma) (e : Ending) (w' : World) : Prop := ∃ (X : Option Addr) (k d : Nat) (ps : List (Int × Int)), e = .returned (.slice X k d) ∧ RdP w' X ps ∧ ps.length = k ∧ ps.Pairwise Mc.ltP ∧ (∀ s t, (s, t) ∈ ps ↔ Mc.PR a b s t) ∧ Below w.heap.size w w'
set_option maxRecDepth 100000 in
set_option maxHeartbeats 8000000 in
theorem rpairs_any (a b : Ma) (i : Nat) (ao bo : Int) (A B : Option Addr) (n c n2 c2 : Nat) (w : World) (va : Mc.Val a) (vb : Mc.Val b) (hia : a.i = i) (hib : b.i = i) (hra : RdR w A a.r) (hn : a.r.length = n) (hrb : RdR w B b.r) (hn2 : b.r.length = n2) :
    Calls Try.prog 30 #[.agg #[.int .i64 i, .int .i64 ao, .slice A n c], .agg #[.int .i64 i, .int .i64 bo, .slice B n2 c2]] w (PaiP w a b) := by
  obtain ⟨i0, hi0, hz0, hz1, hz2⟩ := info_parts boolrow_info
  have hn64 : n ≤ 64 := by have := va.r1; omega
  have hm64 : n2 ≤ 64 := by have := vb.r1; omega
  have hn1 : 1 ≤ n := by have := va.r0; omega
  have hm1 : 1 ≤ n2 := by have := vb.r0; omega
  have hi16 : i ≤ 16 := by have := va.i1; omega
  have HVA := Lib.hid va
  have HVB := Lib.hid vb
  have HII : Hid (a.i = b.i) := hia.trans hib.symm
  have HIA := Lib.hid hia
  have HIB := Lib.hid hib
  have HN := Lib.hid hn
  have HN2 := Lib.hid hn2
  clear va vb hia hib hn hn2
  obtain ⟨h, hh⟩ : ∃ h, w.heap.size = h := ⟨_, rfl⟩
  obtain ⟨W2, hW2⟩ : ∃ W2, boxM (boxM w i ao A n c) i bo B n2 c2 = W2 := ⟨_, rfl⟩
  have hB2 : Below w.heap.size w W2 := by rw [← hW2]; exact ((Below.refl _ _).alloc (Nat.le_refl _) _).alloc (by simp) _
  have hMA : BxM W2 h i ao A n c := by rw [← hW2]; exact (BxM.newE hh i ao A n c).mvB ((Below.refl _ _).alloc (Nat.le_refl _) _)
  have hMB : BxM W2 (h + 1) i bo B n2 c2 := by rw [← hW2]; exact BxM.newE (by simp [boxM, hh]) i bo B n2 c2
  have hz2' : W2.heap.size = h + 1 + 1 := by rw [← hW2, ← hh]; simp [boxM]
  have HRA := Lib.hid (hra.below hB2)
  have HRB := Lib.hid (hrb.below hB2)
  have HB2 := Lib.hid hB2
  have HMA := Lib.hid hMA
  have HMB := Lib.hid hMB
  have HZ := Lib.hid hz2'
  clear hra hrb hB2 hMA hMB hz2'
  go_enter Try.func30, Try.ntmps30
  go_wp2_with fail
  try rw [hW2]
  clear hW2
  have HCL : Hid (∀ wr, Below W2.heap.size W2 wr → (wr.cell? ⟨h, 0, none⟩ = some (.int .i64 i) ∧ wr.cell? ⟨h, 2, none⟩ = some (.slice A n c) ∧ wr.cell? ⟨h + 1, 2, none⟩ = some (.slice B n2 c2))) := fun wr hb => ⟨(HMA.out.mvB hb).cells.1, (HMA.out.mvB hb).cells.2.2, (HMB.out.mvB hb).cells.2.2⟩
  go_loopw [5, 6] (fun x y wr => ∃ (s : Nat) (gs : List Nat), s ≤ n ∧ y = .int .i64 s ∧ Hid (gs.length = s) ∧ Hid (MxB wr W2.heap.size x n2 gs (List.replicate s (List.replicate n2 false))) ∧ Hid (Below W2.heap.size W2 wr)) (fun _ y _ => n - (intOf y).toNat)
  case atStart => exact ⟨0, [], Nat.zero_le _, rfl, rfl, MxB.nil_ _ _ _, Below.refl _ _⟩
  case round =>
    obtain ⟨s, gs, hs, rfl, hgl, hX, hbr⟩ := hrel
    obtain ⟨m0, m2, q2⟩ := HCL.out wr hbr.out
    by_cases hsn : s < n
    · have hsn' : decide ((s : Int) < n) = true := decide_eq_true (by omega)
      go_wp2_with (at_make; refine wpList_make_bools _ rfl _ _ rfl _ n2 rfl rfl rfl (by omega) ?_)
      intro w1 hB1 hb1
      have hX1 := hX.out.below hb1
      have hlt := Lib.hid (fun x hx => MxB.lt hX.out (x := x) hx)
      have hbw := Lib.hid (below_next hbr.out hb1)
      have hgl2 := hgl.out
      have hsz := hb1.size
      have hsz2 := hbr.out.size
      have hown0 := hX1.1
      rw [hgl2] at hown0
      have hownA := hown0.alloc (.cells #[.slice (some ⟨wr.heap.size, 0, none⟩) n2 n2] 107)
      have h1 := Lib.hid (cell_one_new w1 (t := 107) (.slice (some ⟨wr.heap.size, 0, none⟩) n2 n2))
      have h2 : Hid (∀ u ∈ ([.slice (some ⟨wr.heap.size, 0, none⟩) n2 n2] : List Value), u.oneCell' = true) := fun u hu => by simp at hu; subst hu; rfl
      have h3 : s + 1 ≤ maxLen := by unfold maxLen; omega
      have h4 : (s + 1) * 24 ≤ 140737488355328 := by omega
      have h5 : W2.heap.size ≤ (w1.alloc (.cells #[.slice (some ⟨wr.heap.size, 0, none⟩) n2 n2] 107)).heap.size := by simp; omega
      clear hX hbr
      go_wp2_with (at_builtin; refine wpList_append_own _ rfl _ _ 108 rfl W2.heap.size 107 i0 (.slice none 0 0) 1 24 Try.underlying108 hi0 hz0 hz1 hz2 rfl (by decide) _ _ _ rfl hownA ⟨w1.heap.size, 0, none⟩ 1 1 [.slice (some ⟨wr.heap.size, 0, none⟩) n2 n2] rfl rfl h1.out h2.out h3 h4 h5 ?_)
      intro v1 w5 hown1 hg1 _
      have hX5 : Hid (MxB w5 W2.heap.size v1 n2 (gs ++ [wr.heap.size]) (List.replicate (s + 1) (List.replicate n2 false))) := by
        show MxB _ _ _ _ _ _
        rw [List.replicate_succ']
        have hXa := hX1.below ((Below.refl _ _).alloc (Nat.le_refl _) (.cells #[.slice (some ⟨wr.heap.size, 0, none⟩) n2 n2] 107))
        exact hXa.push (fun x hx e => by have := hlt.out x hx; omega) ((((Below.refl _ _).alloc (Nat.le_refl _) _).block _ hB1.out.lt).trans hB1.out) (by omega) (by simp) (by rw [hgl2]; exact hown1) hg1
      have hbF := Lib.hid ((hbw.out.alloc hbw.out.size (.cells #[.slice (some ⟨wr.heap.size, 0, none⟩) n2 n2] 107)).grown hg1 h5 (fun j hj => (hownA.lt j hj).1))
      have hgl5 : Hid ((gs ++ [wr.heap.size]).length = s + 1) := by show _ = _; simp [hgl2]
      clear hown1 hg1 hownA hown0 hX1 h1 h2 h3 h4 h5 hlt hB1 hb1 hbw m0 m2 q2
      go_wp2_with fail
      go_roundw
      case rel => exact ⟨s + 1, _, by omega, by go_num, hgl5, hX5, hbF⟩
      case measure => simp [intOf]; omega
    · have hsn' : decide ((s : Int) < n) = false := decide_eq_false (by omega)
      obtain rfl : s = n := by omega
      have hF0 : MxF wr W2.heap.size u5 s n2 gs (fun _ _ => false) := ⟨_, hX.out, hgl.out, fun x y hx hy => by rw [List.getElem?_replicate, if_pos hx, Option.getD_some, List.getElem?_replicate, if_pos hy]⟩
      obtain ⟨p, cp, g0, rfl, hp, hg, hbg, k1, k2, k3, hset⟩ := hF0.at_ (s := 0) (t := 0) (by omega) (by omega)
      have hbw := Lib.hid (hbr.out.setCell (p := ⟨g0, 0, none⟩) hbg (.bool true))
      have h01 : (0 : Int) < s := by omega
      have h02 : (0 : Int) < n2 := by omega
      clear hX hF0 hbr
      go_wp2_with fail
      obtain ⟨w6, hw6⟩ : ∃ w6, wr.setCell ⟨g0, 0, none⟩ (.bool true) = w6 := ⟨_, rfl⟩
      rw [hw6] at hset hbw
      try rw [hw6]
      clear k1 k2 k3 hbg h01 h02 hw6 hg hp m0 m2 q2
      have hM0 : Hid (∃ f, MxF w6 W2.heap.size (.slice (some ⟨p, 0, none⟩) s cp) s n2 gs f ∧ Mk a b 0 f) := by
        refine ⟨Mc.f00, ?_, Mc.Mk.zero a b⟩
        have he : stF (fun _ _ => false) 0 0 = Mc.f00 := by
          funext x y
          unfold stF Mc.f00
          by_cases h : x = 0 ∧ y = 0
          · rw [if_pos h]; exact (decide_eq_true h).symm
          · rw [if_neg h]; exact (decide_eq_false h).symm
        rw [← he]
        exact hset.out
      clear hset
      obtain ⟨N, hNd⟩ : ∃ N, s * n2 = N := ⟨_, rfl⟩
      have hN4 : N ≤ 4096 := by rw [← hNd]; exact Nat.mul_le_mul hn64 hm64
      have hmul : IntKind.i64.wrap ((s : Int) * (n2 : Int)) = (N : Int) := by rw [← hNd, Int.natCast_mul]; exact IntWalk.i64_in _ (by rw [← Int.natCast_mul, hNd]; omega)
      have HND := Lib.hid hNd
      clear hNd
      go_wp2_with fail
      go_loopw [7] (fun y wr => ∃ r : Nat, r ≤ N ∧ y = .int .i64 r ∧ Hid (∃ f, MxF wr W2.heap.size (.slice (some ⟨p, 0, none⟩) s cp) s n2 gs f ∧ Mk a b r f) ∧ Hid (Below W2.heap.size W2 wr)) (fun y _ => N - (intOf y).toNat)
      case atStart => exact ⟨0, Nat.zero_le _, rfl, hM0, hbw⟩
      case round =>
        clear hM0 hbw
        obtain ⟨r, hr, rfl, hM, hbr⟩ := hrel
        obtain ⟨m0, m2, q2⟩ := HCL.out wr hbr.out
        by_cases hrN : r < N
        · have hrN' : decide ((r : Int) < N) = true := decide_eq_true (by omega)
          go_wp2_with fail
          clear m0 m2 q2
          go_loopw [8] (fun y wy => ∃ x : Nat, x ≤ s ∧ y = .int .i64 x ∧ Hid (∃ f, MxF wy W2.heap.size (.slice (some ⟨p, 0, none⟩) s cp) s n2 gs f ∧ Mdo a b r f x 0 0) ∧ Hid (Below W2.heap.size W2 wy)) (fun y _ => s - (intOf y).toNat)
          case atStart =>
            obtain ⟨f, h1, h2⟩ := hM.out
            exact ⟨0, Nat.zero_le _, rfl, ⟨f, h1, Mc.Mdo.start h2⟩, hbr⟩
          case round =>
            clear hM hbr
            obtain ⟨x, hx, rfl, hM, hbr⟩ := hrel
            obtain ⟨m0, m2, q2⟩ := HCL.out wr hbr.out
            by_cases hxs : x < s
            · have hxs' : decide ((x : Int) < s) = true := decide_eq_true (by omega)
              go_wp2_with fail
              clear m0 m2 q2
              go_loopw [9] (fun y wy => ∃ t : Nat, t ≤ n2 ∧ y = .int .i64 t ∧ Hid (∃ f, MxF wy W2.heap.size (.slice (some ⟨p, 0, none⟩) s cp) s n2 gs f ∧ Mdo a b r f x t 0) ∧ Hid (Below W2.heap.size W2 wy)) (fun y _ => n2 - (intOf y).toNat)
              case atStart => exact ⟨0, Nat.zero_le _, rfl, hM, hbr⟩
              case round =>
                clear hM hbr
                obtain ⟨t, ht, rfl, hM, hbr⟩ := hrel
                obtain ⟨m0, m2, q2⟩ := HCL.out wr hbr.out
                by_cases htn : t < n2
                · have htn' : decide ((t : Int) < n2) = true := decide_eq_true (by omega)
                  go_wp2_with fail
                  clear m0 m2 q2
                  go_loopw [10] (fun y wy => ∃ j : Nat, j ≤ i ∧ y = .int .i64 j ∧ Hid (∃ f, MxF wy W2.heap.size (.slice (some ⟨p, 0, none⟩) s cp) s n2 gs f ∧ Mdo a b r f x t j) ∧ Hid (Below W2.heap.size W2 wy)) (fun y _ => i - (intOf y).toNat)
                  case atStart => exact ⟨0, Nat.zero_le _, rfl, hM, hbr⟩
                  case round =>
                    clear hM hbr
                    obtain ⟨j, hj, rfl, hM, hbr⟩ := hrel
                    obtain ⟨m0, m2, q2⟩ := HCL.out wr hbr.out
                    obtain ⟨f, hMf, hMd⟩ := hM.out
                    obtain ⟨p', cp', g, hv, hp, hg, hbg, k1, k2, k3, _⟩ := hMf.at_ hxs htn
                    injection hv with hv hv2 hv3
                    injection hv with hv
                    injection hv with hv
                    subst hv hv3
                    have HMf := Lib.hid hMf
                    have HMd := Lib.hid hMd
                    have hxsI : (x : Int) < s := by omega
                    have htnI : (t : Int) < n2 := by omega
                    clear hM hMf hMd
                    by_cases hji : j < i
                    · have hji' : decide ((j : Int) < i) = true := decide_eq_true (by omega)
                      cases hf : f x t with
                      | false =>
                        rw [hf] at k2
                        go_wp2_with fail
                        go_roundw
                        case rel => exact ⟨t + 1, by omega, by go_num, ⟨f, HMf.out, HMd.out.next (Or.inl hf)⟩, hbr⟩
                        case measure => simp [intOf]; omega
                      | true =>
                        rw [hf] at k2
                        obtain ⟨b1, o1, B1, c1, n1, row1, rfl, hb1, hc1, _, _, _, hp1, hl1, hr1⟩ := HRA.out.at_ (k := x) (by rw [HN.out]; exact hxs)
                        obtain ⟨b2, o2, B2, c2', n3, row2, rfl, hb2, hc2, _, _, _, hp2, hl2, hr2⟩ := HRB.out.at_ (k := t) (by rw [HN2.out]; exact htn)
                        have hn1 : i = n1 := by have := HVA.out.len row1 (List.mem_of_getElem? hr1.out); have := hl1.out; have := HIA.out; omega
                        have hn3 : i = n3 := by have := HVB.out.len row2 (List.mem_of_getElem? hr2.out); have := hl2.out; have := HIB.out; omega
                        subst hn1
                        subst hn3
                        obtain ⟨q1, r1, x0, x1, rfl, hq1, hx0, hx1, hxe⟩ := hp1.at_ (k := j) (by have := hl1.out; omega)
                        obtain ⟨q2', r2, y0, y1, rfl, hq2, hy0, hy1, hye⟩ := hp2.at_ (k := j) (by have := hl2.out; omega)
                        have d1 := (hbr.out.cell (p := ⟨b1, o1 + x, none⟩) hb1).trans hc1
                        have d2 := (hbr.out.cell (p := ⟨b2, o2 + t, none⟩) hb2).trans hc2
                        have d3 := (hbr.out.cell (p := ⟨q1, r1 + j * 2, none⟩) hq1).trans hx0
                        have d4 := (hbr.out.cell (p := ⟨q1, r1 + j * 2 + 1, none⟩) hq1).trans hx1
                        have d5 := (hbr.out.cell (p := ⟨q2', r2 + j * 2, none⟩) hq2).trans hy0
                        have d6 := (hbr.out.cell (p := ⟨q2', r2 + j * 2 + 1, none⟩) hq2).trans hy1
                        have hsz := hbr.out.size
                        have z1 : b1 < wr.heap.size := by omega
                        have z2 : q1 < wr.heap.size := by omega
                        have z3 : q2' < wr.heap.size := by omega
                        have z4 : b2 < wr.heap.size := by omega
                        have z5 : h < wr.heap.size := by have := HZ.out; omega
                        have z6 : h + 1 < wr.heap.size := by have := HZ.out; omega
                        have nxx : Hid (Mc.nx a x j = (x0, x1)) := Mc.nx_at hr1.out hxe.out
                        have nxy : Hid (Mc.nx b t j = (y0, y1)) := Mc.nx_at hr2.out hye.out
                        clear hp1 hp2 hl1 hl2 hc1 hc2 hx0 hx1 hy0 hy1 hxe hye hr1 hr2
                        go_upto_region 19 with fail
                        go_cut [11, 12] from 59 to 105 (fun u v wx => ∃ gx gy, u = .pointer (some ⟨gx, 0, none⟩) ∧ v = .pointer (some ⟨gy, 0, none⟩) ∧ Hid (BxE wx gx x0 x1) ∧ Hid (BxE wx gy y0 y1) ∧ Hid (Below wr.heap.size wr wx))
                        case first =>
                          go_region
                          all_goals
                            go_wp2_with fail
                            go_meet
                            first
                              | exact ⟨_, _, rfl, rfl, (two_edges wr x0 x1 y0 y1).1, (two_edges wr x0 x1 y0 y1).2.1, (two_edges wr x0 x1 y0 y1).2.2⟩
                              | exact ⟨_, _, rfl, rfl, (two_edges wr y0 y1 x0 x1).2.1, (two_edges wr y0 y1 x0 x1).1, (two_edges wr y0 y1 x0 x1).2.2⟩
                        case rest =>
                        obtain ⟨gx, gy, rfl, rfl, hgx, hgy, hbc⟩ := hcut
                        clear d1 d2 d3 d4 d5 d6 z1 z2 z3 z4 z5 z6 hq1 hq2 hb1 hb2 k1 k2 k3 hg hp hbg m0 m2 q2 hsz
                        have hbr2 := Lib.hid (below_next hbr.out hbc.out)
                        have HMf2 := Lib.hid (HMf.out.below hbc.out)
                        obtain ⟨u0, u1, _, _⟩ := hgx.out.cells
                        obtain ⟨u2, u3, _, _⟩ := hgy.out.cells
                        by_cases hxx : 0 ≤ x0 ∧ 0 ≤ y0
                        · have hx0d : decide ((0 : Int) ≤ x0) = true := decide_eq_true hxx.1
                          have hy0d : decide ((0 : Int) ≤ y0) = true := decide_eq_true hxx.2
                          have hx0n : x0 < s := by
                            obtain ⟨e, _⟩ := Mc.nx_st HVA.out (s := (x : Int)) (i := (j : Int)) (Or.inr ⟨by omega, by have := HN.out; omega⟩) ⟨by omega, by have := HIA.out; omega⟩
                            rw [nxx.out] at e
                            have := HN.out
                            rcases e with e | ⟨_, e⟩ <;> simp at e <;> omega
                          have hy0n : y0 < n2 := by
                            obtain ⟨e, _⟩ := Mc.nx_st HVB.out (s := (t : Int)) (i := (j : Int)) (Or.inr ⟨by omega, by have := HN2.out; omega⟩) ⟨by omega, by have := HIB.out; omega⟩
                            rw [nxy.out] at e
                            have := HN2.out
                            rcases e with e | ⟨_, e⟩ <;> simp at e <;> omega
                          obtain ⟨xs', hxs0⟩ := Int.eq_ofNat_of_zero_le hxx.1
                          obtain ⟨ys', hys0⟩ := Int.eq_ofNat_of_zero_le hxx.2
                          obtain ⟨p', cp', g2, hv, hp, hg, hbg, k1, k2, k3, hset⟩ := HMf2.out.at_ (s := xs') (t := ys') (by omega) (by omega)
                          injection hv with hv hv2 hv3
                          injection hv with hv
                          injection hv with hv
                          subst hv hv3
                          have hE := Lib.hid (HMd.out.edge hf ⟨by omega, by rw [HIA.out]; omega⟩ (by rw [nxx.out]; exact hxx.1) (by rw [nxy.out]; exact hxx.2))
                          have hFn : Hid (∃ f, MxF (wc.setCell ⟨g2, ys', none⟩ (.bool true)).drew W2.heap.size (.slice (some ⟨p, 0, none⟩) s cp) s n2 gs f ∧ Mdo a b r f x t ((j + 1 : Nat) : Int)) := by
                            refine ⟨_, hset.out.below (Below.refl _ _).drew, ?_⟩
                            have h9 := hE.out
                            rw [nxx.out, nxy.out] at h9
                            dsimp only at h9
                            rw [hxs0, hys0, Int.toNat_natCast, Int.toNat_natCast] at h9
                            rw [Int.natCast_add]
                            exact h9
                          have hbF := Lib.hid ((hbr2.out.setCell (p := ⟨g2, ys', none⟩) hbg (.bool true)).drew)
                          subst hxs0 hys0
                          clear hset hE HMf2 HMf HMd nxx nxy hbr2 hbr hbc
                          go_upto_region 21 with fail
                          go_region
                          all_goals
                            clear u0 u1 u2 u3 k1 k2 k3 hp hg hbg
                            go_wp2_with fail
                            go_roundw
                            case rel => exact ⟨j + 1, by omega, by go_num, hFn, hbF⟩
                            case measure => simp [intOf]; omega
                        · have hSk : Hid (Mdo a b r f x t ((j + 1 : Nat) : Int)) := by
                            have h9 := HMd.out.skip (by rw [nxx.out, nxy.out]; exact hxx)
                            show Mdo _ _ _ _ _ _ _
                            rw [Int.natCast_add]
                            exact h9
                          by_cases hx0' : 0 ≤ x0
                          · have hx0d : decide ((0 : Int) ≤ x0) = true := decide_eq_true hx0'
                            have hy0d : decide ((0 : Int) ≤ y0) = false := decide_eq_false (fun h => hxx ⟨hx0', h⟩)
                            go_wp2_with fail
                            go_roundw
                            case rel => exact ⟨j + 1, by omega, by go_num, ⟨f, HMf2.out, hSk.out⟩, hbr2⟩
                            case measure => simp [intOf]; omega
                          · have hx0d : decide ((0 : Int) ≤ x0) = false := decide_eq_false hx0'
                            go_wp2_with fail
                            go_roundw
                            case rel => exact ⟨j + 1, by omega, by go_num, ⟨f, HMf2.out, hSk.out⟩, hbr2⟩
                            case measure => simp [intOf]; omega
                    · have hji' : decide ((j : Int) < i) = false := decide_eq_false (by omega)
                      obtain rfl : j = i := by omega
                      go_wp2_with fail
                      go_roundw
                      case rel => exact ⟨t + 1, by omega, by go_num, ⟨f, HMf.out, HMd.out.next (Or.inr (by rw [HIA.out]; exact Int.le_refl _))⟩, hbr⟩
                      case measure => simp [intOf]; omega
                · have htn' : decide ((t : Int) < n2) = false := decide_eq_false (by omega)
                  obtain rfl : t = n2 := by omega
                  go_wp2_with fail
                  go_roundw
                  case rel =>
                    obtain ⟨f, h1, h2⟩ := hM.out
                    exact ⟨x + 1, by omega, by go_num, ⟨f, h1, h2.row HVA.out HVB.out HII.out (by rw [HN2.out]; exact Nat.le_refl _)⟩, hbr⟩
                  case measure => simp [intOf]; omega
            · have hxs' : decide ((x : Int) < s) = false := decide_eq_false (by omega)
              obtain rfl : x = s := by omega
              go_wp2_with fail
              go_roundw
              case rel =>
                obtain ⟨f, h1, h2⟩ := hM.out
                exact ⟨r + 1, by omega, by go_num, ⟨f, h1, h2.round HVA.out HVB.out HII.out (by rw [HN.out]; exact Nat.le_refl _)⟩, hbr⟩
              case measure => simp [intOf]; omega
        · have hrN' : decide ((r : Int) < N) = false := decide_eq_false (by omega)
          obtain rfl : r = N := by omega
          obtain ⟨f, hMf, hMk⟩ := hM.out
          have hAll : Hid (∀ x t : Nat, f x t = true ↔ Mc.PR a b x t) := fun x t => by
            rw [← HND.out, ← HN.out, ← HN2.out] at hMk
            exact hMk.all HVA.out HVB.out HII.out x t
          have HMf := Lib.hid hMf
          clear hM hMf hMk
          obtain ⟨wo, hwo⟩ : ∃ wo : World, wo = wr := ⟨_, rfl⟩
          subst hwo
          go_wp2_with fail
          clear m0 m2 q2
          go_loopw [13, 14] (fun l y wz => ∃ u : Nat, u ≤ s ∧ y = .int .i64 u ∧ Hid (wz.ownsRow wo.heap.size 64 2 l (Mc.prL f u n2).length (eC (Mc.prL f u n2))) ∧ Hid (Below wo.heap.size wo wz)) (fun _ y _ => s - (intOf y).toNat)
          case atStart => exact ⟨0, Nat.zero_le _, rfl, World.ownsRow_nil _ _ _ _, Below.refl _ _⟩
          case round =>
            obtain ⟨u, hu, rfl, hO, hbz⟩ := hrel
            obtain ⟨m0, m2, q2⟩ := HCL.out wr (below_next hbr.out hbz.out)
            by_cases hus : u < s
            · have hus' : decide ((u : Int) < s) = true := decide_eq_true (by omega)
              go_wp2_with fail
              clear m0 m2 q2
              go_loopw [13, 15] (fun l y wz => ∃ t : Nat, t ≤ n2 ∧ y = .int .i64 t ∧ Hid (wz.ownsRow wo.heap.size 64 2 l (Mc.prL f u n2 ++ Mc.prR f u t).length (eC (Mc.prL f u n2 ++ Mc.prR f u t))) ∧ Hid (Below wo.heap.size wo wz)) (fun _ y _ => n2 - (intOf y).toNat)
              case atStart => exact ⟨0, Nat.zero_le _, rfl, by
                have := hO.out
                show World.ownsRow _ _ _ _ _ _ _
                simpa [Mc.prR] using this, hbz⟩
              case round =>
                clear hO hbz
                obtain ⟨t, ht, rfl, hO, hbz⟩ := hrel
                obtain ⟨m0, m2, q2⟩ := HCL.out wr (below_next hbr.out hbz.out)
                by_cases htn : t < n2
                · have htn' : decide ((t : Int) < n2) = true := decide_eq_true (by omega)
                  obtain ⟨p', cp', g, hv, hp, hg, hbg, k1, k2, k3, _⟩ := (HMf.out.below hbz.out).at_ hus htn
                  injection hv with hv hv2 hv3
                  injection hv with hv
                  injection hv with hv
                  subst hv hv3
                  have husI : (u : Int) < s := by omega
                  have htnI : (t : Int) < n2 := by omega
                  cases hf : f u t with
                  | false =>
                    rw [hf] at k2
                    have hnx : Hid (Mc.prR f u (t + 1) = Mc.prR f u t) := by show _ = _; rw [Mc.prR_snoc, hf]; simp
                    go_wp2_with fail
                    go_roundw
                    case rel => exact ⟨t + 1, by omega, by go_num, by rw [hnx.out]; exact hO.out, hbz⟩
                    case measure => simp [intOf]; omega
                  | true =>
                    rw [hf] at k2
                    have hnx : Hid (Mc.prL f u n2 ++ Mc.prR f u (t + 1) = (Mc.prL f u n2 ++ Mc.prR f u t) ++ [((u : Int), (t : Int))]) := by show _ = _; rw [Mc.prR_snoc, hf, if_pos rfl, List.append_assoc]
                    have hlb : (Mc.prL f u n2 ++ Mc.prR f u t).length ≤ 1000000 := by
                      rw [List.length_append]
                      have h1 := Mc.prL_len f u n2
                      have h2 := Mc.prR_len f u t
                      have h3 : u * n2 ≤ 64 * 64 := Nat.mul_le_mul (by omega) hm64
                      omega
                    obtain ⟨xs, hxs⟩ : ∃ xs, Mc.prL f u n2 ++ Mc.prR f u t = xs := ⟨_, rfl⟩
                    rw [hxs] at hO hlb hnx
                    have hOo := hO.out
                    have hbo := hbz.out
                    have hbs := hbz.out.size
                    go_wp2_with (at_builtin; refine wpList_append_pairE _ (u : Int) (t : Int) (W0 := wo) hOo hlb hbs hbo rfl _ _ rfl rfl rfl ?_)
                    intro v1 w1 hown1 hb1 _
                    have hO1 : Hid (w1.ownsRow wo.heap.size 64 2 v1 (Mc.prL f u n2 ++ Mc.prR f u (t + 1)).length (eC (Mc.prL f u n2 ++ Mc.prR f u (t + 1)))) := by
                      show World.ownsRow _ _ _ _ _ _ _
                      rw [hnx.out, List.length_append]
                      exact hown1
                    have HB1 := Lib.hid hb1
                    clear hown1 hb1 hOo hbo hbs hO hbz hlb hxs m0 m2 q2 k1 k2 k3 hp hg hbg
                    go_wp2_with fail
                    go_roundw
                    case rel => exact ⟨t + 1, by omega, by go_num, hO1, HB1⟩
                    case measure => simp [intOf]; omega
                · have htn' : decide ((t : Int) < n2) = false := decide_eq_false (by omega)
                  obtain rfl : t = n2 := by omega
                  go_wp2_with fail
                  go_roundw
                  case rel => exact ⟨u + 1, by omega, by go_num, by rw [Mc.prL_snoc]; exact hO.out, hbz⟩
                  case measure => simp [intOf]; omega
            · have hus' : decide ((u : Int) < s) = false := decide_eq_false (by omega)
              obtain rfl : u = s := by omega
              have hfm : ∀ x y : Int, (x, y) ∈ Mc.prL f u n2 ↔ Mc.PR a b x y := fun x y => by
                rw [Mc.prL_mem]
                constructor
                · rintro ⟨s', t', _, _, h3, h4⟩
                  injection h4 with h4 h5
                  rw [h4, h5]
                  exact (hAll.out s' t').1 h3
                · intro h
                  have h1 := h.st HVA.out HVB.out HII.out
                  rw [HN.out, HN2.out] at h1
                  obtain ⟨s', rfl⟩ := Int.eq_ofNat_of_zero_le h1.1.1
                  obtain ⟨t', rfl⟩ := Int.eq_ofNat_of_zero_le h1.2.1
                  exact ⟨s', t', by omega, by omega, (hAll.out s' t').2 h, rfl⟩
              have hAsc := Mc.prL_asc f u n2
              obtain ⟨ps, hps⟩ : ∃ ps, Mc.prL f u n2 = ps := ⟨_, rfl⟩
              rw [hps] at hfm hAsc hO
              have HF := Lib.hid hfm
              have HA := Lib.hid hAsc
              have HBZ := Lib.hid (below_next HB2.out (below_next hbr.out hbz.out))
              clear hfm hAsc hps
              obtain ⟨X, d, rfl⟩ := own_shapeP hO.out
              have HRX := Lib.hid (RdP.of_ownP hO.out)
              clear hO
              go_wp2_with fail
              go_ret
              exact ⟨X, _, d, ps, rfl, HRX.out, rfl, HA.out, HF.out, HBZ.out⟩
end Go.Proofs.Ytomgofgbfdcmhaa

namespace Go.Proofs.Ytomgofgbfdcmhaa
open Go.RowKit
open Mc (Ed Ma Wv)

/-- What CheckRelation hands back for pairs that are valid. -/
def CkP (w : World) (a b : Ma) (R : List (Int × Int)) (e : Ending) (w' : World) : Prop := ∃ is : Bool, e = .returned (.tuple #[.bool is, .int .i64 0]) ∧ (is = true ↔ (∀ p ∈ R, kps a b R p.1 p.2) ∧ ((0, 0) : Int × Int) ∈ R) ∧ Below w.heap.size w w'
/-- Pairs by numbers. -/
def mpL (n n2 : Nat) (ms : List (Int × Int)) : List (Int × Int) := ms.map fun x => (x.1 % (n : Int), x.2 % (n2 : Int))
theorem mpL_in {n n2 : Nat} {ms : List (Int × Int)} {p : Int × Int} (h1 : 1 ≤ n) (h2 : 1 ≤ n2) (h : p ∈ mpL n n2 ms) : inR n n2 p := by
  unfold mpL at h
  obtain ⟨x, _, rfl⟩ := List.mem_map.1 h
  exact ⟨⟨Int.emod_nonneg _ (by omega), Int.emod_lt_of_pos _ (by omega)⟩, ⟨Int.emod_nonneg _ (by omega), Int.emod_lt_of_pos _ (by omega)⟩⟩
theorem cells_pairP (w : World) (x y : Int) : ∀ (j : Nat) (v : Value), ([.int .i64 x, .int .i64 y] : List Value)[j]? = some v → (w.alloc (.cells #[.int .i64 x, .int .i64 y] 64)).drew.cell? ((⟨w.heap.size, 0, none⟩ : Addr).add j) = some v := fun j v hj => by
  rw [Addr.add_lit]
  show (w.alloc _).cell? _ = some v
  rw [World.cell?_alloc_at _ _ _ _ rfl]
  match j, hj with
  | 0, hj => simpa using hj
  | 1, hj => simpa using hj
theorem RdP.below' {w w' : World} {A : Option Addr} {ps : List (Int × Int)} (h : RdP w A ps) (k : Below w.heap.size w w') : RdP w' A ps := h.below k
/-- Ascending lists with the same pairs are one. -/
theorem asc_eq {qs ps : List (Int × Int)} {S : List (Int × Int)} (hq : qs.Perm S) (hs : S.Nodup) (hqa : qs.Pairwise (fun p q => ¬ cmpP q p < 0)) (hpa : ps.Pairwise Mc.ltP) (hm : ∀ x, x ∈ ps ↔ x ∈ S) : ps = qs := by
  have hpn : ps.Nodup := hpa.imp (fun {x y} h e => by subst e; unfold Mc.ltP at h; omega)
  have hperm : ps.Perm qs := ((List.perm_ext_iff_of_nodup hpn hs).2 hm).trans hq.symm
  have hpa2 : ps.Pairwise (fun p q => ¬ cmpP q p < 0) := hpa.imp (fun {x y} h => by rw [cmpP_lt]; unfold Mc.ltP at h; omega)
  exact Mc.sorted_eq (R := fun p q => ¬ cmpP q p < 0) (fun a b h1 h2 => cmpP_anti a b h1 h2) hperm hpa2 hqa
theorem wk_pairs_nodup {a b : Ma} (va : Mc.Val a) (vb : Mc.Val b) (hi : a.i = b.i) : ((Mc.wk (Mc.pr a b) 0).map (pq b.r.length)).Nodup := by
  have h1 := Mc.BF.nodupQ (Mc.pr_vq va vb hi) (Mc.pr_bf va vb hi)
  rw [List.Nodup, List.pairwise_map] at h1 ⊢
  refine h1.imp_of_mem (fun {x y} hx hy hne e => hne ?_)
  have e1 := ((Mc.pr_bf va vb hi).lw x hx).1
  have e2 := ((Mc.pr_bf va vb hi).lw y hy).1
  obtain ⟨x1, hx1⟩ := Int.eq_ofNat_of_zero_le e1.1
  obtain ⟨y1, hy1⟩ := Int.eq_ofNat_of_zero_le e2.1
  unfold pq at e
  injection e with e3 e4
  have h5 := Int.mul_ediv_add_emod x.1 b.r.length
  have h6 := Int.mul_ediv_add_emod y.1 b.r.length
  rw [← h5, ← h6, e3, e4]
set_option maxRecDepth 100000 in
set_option maxHeartbeats 4000000 in
theorem erel_walk (a b d a2 b2 d2 s0 s1 p0 p1 tx ty : Int) (q q2 al : Bool) (A A2 : Option Addr) (EL c EL2 c2 : Nat) (MR : Option Addr) (cm : Nat) (ms : List (Int × Int)) (w : World) (hms : RdP8 w MR ms) (hml : ms.length ≤ 9223372036854775807)
    (HD : ∀ w', Below w.heap.size w w' → Calls Try.prog 16 #[.agg #[.int .u8 a, .int .u8 b, .int .u8 d, .bool q, .slice A EL c, .int .u8 a2, .int .u8 b2, .int .u8 d2, .bool q2, .slice A2 EL2 c2, .bool al, .int .u8 s0, .int .u8 s1, .int .u8 p0, .int .u8 p1, .int .i64 tx, .int .i64 ty]] w' (DoP w')) :
    Calls Try.prog 6 #[.agg #[.int .u8 a, .int .u8 b, .int .u8 d, .bool q, .slice A EL c, .int .u8 a2, .int .u8 b2, .int .u8 d2, .bool q2, .slice A2 EL2 c2, .bool al, .int .u8 s0, .int .u8 s1, .int .u8 p0, .int .u8 p1, .int .i64 tx, .int .i64 ty], .slice MR ms.length cm] w fun e w' => e = .returned (.bool true) ∧ Below w.heap.size w w' := by
  have hb0 : Below w.heap.size w (w.alloc (.cells #[.int .u8 a, .int .u8 b, .int .u8 d, .bool q, .slice A EL c, .int .u8 a2, .int .u8 b2, .int .u8 d2, .bool q2, .slice A2 EL2 c2, .bool al, .int .u8 s0, .int .u8 s1, .int .u8 p0, .int .u8 p1, .int .i64 tx, .int .i64 ty] 29)) := (Below.refl _ _).alloc (Nat.le_refl _) _
  have HDD := Lib.hid (HD _ hb0)
  have HB0 := Lib.hid hb0
  clear hb0 HD
  go_enter Try.func6, Try.ntmps6
  obtain ⟨EM, hEM⟩ : ∃ EM, ms.length = EM := ⟨_, rfl⟩
  rw [hEM] at hml ⊢
  have HEM := Lib.hid hEM
  have HMS := Lib.hid hms
  clear hEM hms
  by_cases h40 : 40 < EM
  · have h40d : decide ((40 : Int) < EM) = true := decide_eq_true (by omega)
    go_wp2_with fail
    go_ret
    exact ⟨rfl, HB0.out⟩
  have h40d : decide ((40 : Int) < EM) = false := decide_eq_false (by omega)
  have hEM40 : EM ≤ 40 := by omega
  clear h40 hml
  go_wp2_with fail
  refine HDD.out.mono ?_
  rintro e w1 ⟨m, m2, i, ao, bo, X, Y, n, k, n2, k2, rfl, hrx, hry, hn, hn2, va, vb, hi, hi2, ho, ho2, hn6, hn26, hb1⟩
  obtain ⟨g, hg⟩ : ∃ g, w1.heap.size = g := ⟨_, rfl⟩
  obtain ⟨W2, hW2⟩ : ∃ W2, boxM (boxM w1 i ao X n k) i bo Y n2 k2 = W2 := ⟨_, rfl⟩
  have hb2 : Below w1.heap.size w1 W2 := by rw [← hW2]; exact ((Below.refl _ _).alloc (Nat.le_refl _) _).alloc (by simp) _
  have hMA : BxM W2 g i ao X n k := by rw [← hW2]; exact (BxM.newE hg i ao X n k).mvB ((Below.refl _ _).alloc (Nat.le_refl _) _)
  have hMB : BxM W2 (g + 1) i bo Y n2 k2 := by rw [← hW2]; exact BxM.newE (by simp [boxM, hg]) i bo Y n2 k2
  have HRX := Lib.hid (hrx.below hb2)
  have HRY := Lib.hid (hry.below hb2)
  have HB2 := Lib.hid (below_next (below_next HB0.out hb1) hb2)
  have HVA := Lib.hid va
  have HVB := Lib.hid vb
  have hii : Hid (m.i = m2.i) := by show _ = _; rw [hi, hi2]
  have HE : Hid (ech m m2 = 0) := ech_zero va vb hii.out
  have hsum : m.r.length + m2.r.length ≤ 64 := by omega
  have HSUM := Lib.hid hsum
  have HN := Lib.hid hn
  have HN2 := Lib.hid hn2
  have CD : Hid (∀ wr, Below W2.heap.size W2 wr → Calls Try.prog 18 #[.agg #[.int .i64 i, .int .i64 ao, .slice X n k], .agg #[.int .i64 i, .int .i64 bo, .slice Y n2 k2]] wr (DfrQ wr m m2)) := fun wr hb => rdiffer_at m m2 i ao bo X Y n k n2 k2 wr va vb hi hi2 (HRX.out.below hb) hn (HRY.out.below hb) hn2 (by omega)
  have CR : Hid (∀ wr, Below W2.heap.size W2 wr → Calls Try.prog 28 #[.agg #[.int .i64 i, .int .i64 ao, .slice X n k], .agg #[.int .i64 i, .int .i64 bo, .slice Y n2 k2]] wr (RelP wr m m2)) := fun wr hb => by
    have h1 := erelate_any m m2 X Y n k n2 k2 wr (HRX.out.below hb) hn (by omega) va.rowsE (HRY.out.below hb) hn2 (by omega) vb.rowsE
    rw [hi, hi2, ho, ho2] at h1
    exact h1
  have CP : Hid (∀ wr, Below W2.heap.size W2 wr → Calls Try.prog 30 #[.agg #[.int .i64 i, .int .i64 ao, .slice X n k], .agg #[.int .i64 i, .int .i64 bo, .slice Y n2 k2]] wr (PaiP wr m m2)) := fun wr hb => rpairs_any m m2 i ao bo X Y n k n2 k2 wr va vb hi hi2 (HRX.out.below hb) hn (HRY.out.below hb) hn2
  have CK : Hid (∀ (wr : World) (Z : Option Addr) (kz cz : Nat) (R : List (Int × Int)), Below W2.heap.size W2 wr → RdP wr Z R → R.length = kz → kz ≤ 1000 → (∀ p ∈ R, inR n n2 p) → Calls Try.prog 31 #[.agg #[.int .i64 i, .int .i64 ao, .slice X n k], .agg #[.int .i64 i, .int .i64 bo, .slice Y n2 k2], .slice Z kz cz] wr (CkP wr m m2 R)) := fun wr Z kz cz R hb hr hk hkb hin => by
    have h1 := checkRel_any m m2 X Y Z n k n2 k2 kz cz R wr (HRX.out.below hb) hn (by omega) va.rowsE (HRY.out.below hb) hn2 (by omega) vb.rowsE hr hk (by omega)
    rw [hi, hi2, ho, ho2] at h1
    refine h1.mono ?_
    rintro e w' ⟨hbl, is, z, rfl, hz, h0, h2⟩
    have hp0 : pck m m2 R = 0 := by
      unfold pck
      rw [if_neg (by rw [ech_zero va vb hii.out]; simp), if_neg (by omega), if_pos (by rw [hn, hn2]; exact hin)]
    rw [hp0] at hz
    subst hz
    exact ⟨is, rfl, h2 (by first | trivial | rfl), hbl⟩
  have CC : Hid (∀ (wr : World) (Z : Option Addr) (kz cz : Nat) (R : List (Int × Int)), Below W2.heap.size W2 wr → RdP wr Z R → R.length = kz → kz ≤ 1000 → (∀ p ∈ R, inR n n2 p) → Calls Try.prog 32 #[.agg #[.int .i64 i, .int .i64 ao, .slice X n k], .agg #[.int .i64 i, .int .i64 bo, .slice Y n2 k2], .slice Z kz cz] wr (CtP wr m m2 R)) := fun wr Z kz cz R hb hr hk hkb hin => rcert_any m m2 va vb i ao bo hi hi2 X Y Z n k n2 k2 kz cz R wr (HRX.out.below hb) hn (HRY.out.below hb) hn2 hr hk (by omega) hin
  have hn1 : 1 ≤ n := by have := va.r0; omega
  have hn21 : 1 ≤ n2 := by have := vb.r0; omega
  have HMA := Lib.hid hMA
  have HMB := Lib.hid hMB
  have HW2 := Lib.hid hW2
  clear hb1 hb2 hrx hry hMA hMB hW2 va vb hi hi2 ho ho2 hn hn2 hsum HDD
  go_upto_region 4 with fail
  try rw [hg]
  change Code.wp _ _ _ _ (boxM (boxM w1 i ao X n k) i bo Y n2 k2)
  rw [HW2.out]
  clear HW2 hg
  obtain ⟨x0, x1, x2⟩ := HMA.out.cells
  obtain ⟨y0, y1, y2⟩ := HMB.out.cells
  go_wp2_with fail
  refine (CR.out _ (Below.refl _ _)).mono ?_
  rintro e w3 ⟨hb3, X1, k3, is, z1, rfl, hz3, hc3⟩
  rw [HE.out] at hz3
  subst hz3
  have HC3 := Lib.hid hc3
  have HB3 := Lib.hid hb3
  clear hc3 hb3 x0 x1 x2 y0 y1 y2 CR
  obtain ⟨x0, x1, x2⟩ := (HMA.out.mvB HB3.out).cells
  obtain ⟨y0, y1, y2⟩ := (HMB.out.mvB HB3.out).cells
  go_wp2_with fail
  refine (CD.out _ HB3.out).mono ?_
  rintro e w5 ⟨X3, k5, d5, th, u3, rfl, hr5, hk5, hb5, hc5⟩
  have HB5 := Lib.hid (below_next HB3.out hb5)
  have HB05 := Lib.hid hb5
  have HB25 := Lib.hid (below_next HB2.out HB5.out)
  clear hb5 hr5 hk5 x0 x1 x2 y0 y1 y2 CD
  -- either equal, with the pairs, or not
  have hall : ∃ qs : List (Int × Int), th = !is ∧ qs.length ≤ 36 ∧ RdP w5 X1 qs ∧ qs.length = k3 ∧ ((is = true ∧ Mc.Sim m m2 ∧ (∀ s t, (s, t) ∈ qs ↔ Mc.PR m m2 s t) ∧ (∀ ps : List (Int × Int), ps.Pairwise Mc.ltP → (∀ s t, (s, t) ∈ ps ↔ Mc.PR m m2 s t) → ps = qs)) ∨ (is = false ∧ X1 = none ∧ k3 = 0 ∧ qs = [] ∧ ¬ Mc.Sim m m2)) := by
    rcases HC3.out with ⟨h1, _, h2, qs, h3, h4, h5, h6⟩ | ⟨h1, h2, h3, h4⟩
    · refine ⟨qs, ?_, ?_, h5.below HB05.out, h6, Or.inl ⟨h1, h2, fun s t => ?_, fun ps hp hm => ?_⟩⟩
      · rcases hc5 with ⟨_, h⟩ | ⟨h, _⟩
        · exact absurd h2 h.not
        · rw [h, h1]; rfl
      · have e1 := h3.length_eq
        rw [List.length_map] at e1
        have e2 := Mc.BF.lenQ (Mc.pr_vq HVA.out HVB.out hii.out) (Mc.pr_bf HVA.out HVB.out hii.out)
        rw [Mc.pr_len, HN.out, HN2.out] at e2
        have e3 : n * n2 ≤ 6 * 6 := Nat.mul_le_mul hn6 hn26
        omega
      · rw [h3.mem_iff, Mc.pr_mem HVA.out HVB.out hii.out]
      · refine asc_eq h3 (wk_pairs_nodup HVA.out HVB.out hii.out) (h4.imp (fun {x y} h => by omega)) hp (fun x => ?_)
        obtain ⟨s, t⟩ := x
        rw [hm s t, Mc.pr_mem HVA.out HVB.out hii.out]
    · subst h2 h3
      refine ⟨[], ?_, by simp, fun hp => absurd hp (by simp), rfl, Or.inr ⟨h1, rfl, rfl, rfl, h4 (by first | trivial | rfl)⟩⟩
      rcases hc5 with ⟨h, _⟩ | ⟨_, _, h⟩
      · rw [h, h1]; rfl
      · exact absurd h (h4 (by first | trivial | rfl))
  obtain ⟨qs, rfl, hq36, hRq, hql, hcase⟩ := hall
  have HRQ := Lib.hid hRq
  have HQL := Lib.hid hql
  have HCA := Lib.hid hcase
  clear hRq hql hc5 HC3
  have hk36 : k3 ≤ 36 := by rw [← HQL.out]; exact hq36
  clear hq36
  have hqin : Hid (∀ p ∈ qs, inR n n2 p) := fun p hp => by
    obtain ⟨s, t⟩ := p
    rcases HCA.out with ⟨_, _, h, _⟩ | ⟨_, _, _, h, _⟩
    · have h1 := ((h s t).1 hp).st HVA.out HVB.out hii.out
      rw [HN.out, HN2.out] at h1
      exact h1
    · rw [h] at hp; simp at hp
  have hne : (is == !is) = false := by cases is <;> rfl
  obtain ⟨p0', hp0, hp1, hp2, hp3⟩ := info_parts pairE_info
  go_upto_if 51 with fail
  go_cut [12, 13, 14] from 52 to 76 (fun V _ _ wx => Hid (wx.ownsRow w5.heap.size 64 2 V k3 (eC qs)) ∧ Hid (Below w5.heap.size w5 wx))
  case first =>
    cases is with
    | false =>
      have hk0 : Hid (k3 = 0 ∧ qs = []) := by
        rcases HCA.out with ⟨h, _⟩ | ⟨_, _, h1, h2, _⟩
        · cases h
        · exact ⟨h1, h2⟩
      have hk0' := hk0.out.1
      subst hk0'
      go_wp2_with fail
      go_meet
      exact ⟨by rw [hk0.out.2]; exact World.ownsRow_nil _ _ _ _, Below.refl _ _⟩
    | true =>
      have hT : Hid (Mc.Sim m m2 ∧ (∀ s t, (s, t) ∈ qs ↔ Mc.PR m m2 s t) ∧ (∀ ps : List (Int × Int), ps.Pairwise Mc.ltP → (∀ s t, (s, t) ∈ ps ↔ Mc.PR m m2 s t) → ps = qs)) := by
        rcases HCA.out with ⟨_, h⟩ | ⟨h, _⟩
        · exact h
        · cases h
      obtain ⟨x0, x1, x2⟩ := (HMA.out.mvB HB5.out).cells
      obtain ⟨y0, y1, y2⟩ := (HMB.out.mvB HB5.out).cells
      go_wp2_with fail
      refine (CP.out _ HB5.out).mono ?_
      rintro e w6 ⟨X6, k6, d6, ps, rfl, hr6, hk6, hasc, hm6, hb6⟩
      obtain rfl := hT.out.2.2 ps hasc hm6
      obtain rfl : k3 = k6 := HQL.out.symm.trans hk6
      have HR6 := Lib.hid hr6
      have HB6 := Lib.hid hb6
      clear hr6 hb6 hasc hm6 hk6 x0 x1 x2 y0 y1 y2
      go_wp2_with fail
      refine (epairs_yes X1 X6 k3 d6 ps w6 (HRQ.out.below HB6.out) HR6.out HQL.out (by omega)).mono ?_
      rintro e w7 ⟨rfl, hb7⟩
      have HB7 := Lib.hid (below_next HB6.out hb7)
      clear hb7 HR6
      obtain ⟨x0, x1, x2⟩ := (HMA.out.mvB (below_next HB5.out HB7.out)).cells
      obtain ⟨y0, y1, y2⟩ := (HMB.out.mvB (below_next HB5.out HB7.out)).cells
      go_wp2_with fail
      refine (CK.out w7 X1 k3 k3 ps (below_next HB5.out HB7.out) (HRQ.out.below HB7.out) HQL.out (by omega) hqin.out).mono ?_
      rintro e w8 ⟨iz, rfl, hiz, hb8⟩
      obtain rfl : iz = true := hiz.2 (Mc.sim_cert HVA.out HVB.out hii.out hT.out.1 hT.out.2.1)
      have HB8 := Lib.hid (below_next HB7.out hb8)
      clear hb8 hiz x0 x1 x2 y0 y1 y2
      have hpos : 0 < ps.length := List.length_pos_of_mem ((hT.out.2.1 0 0).2 (Mc.PRk.zero m m2).pr)
      obtain ⟨bq, oq, rfl, _, _⟩ := HRQ.out hpos
      have S1 := Lib.hid (eC_read (HRQ.out.below HB8.out))
      have S2 := Lib.hid (eC_cell ps)
      have SL : Hid ((eC ps).length = k3 * 2) := by show _ = _; rw [eC_len, HQL.out]
      have s3 : 0 + k3 ≤ maxLen := by unfold maxLen; omega
      have s4 : (0 + k3) * 16 ≤ 140737488355328 := by omega
      have s5 : w5.heap.size ≤ w8.heap.size := HB8.out.size
      have hwn : Hid (w8.ownsRow w5.heap.size 64 2 (.slice none 0 0) 0 []) := World.ownsRow_nil _ _ _ _
      have hk3n : ((k3 : Int) == 0) = false := by rw [beq_eq_false_iff_ne]; have := HQL.out; omega
      go_wp2_with (at_builtin; refine wpList_append_own _ rfl _ _ 58 rfl w5.heap.size 64 p0' (.agg #[.int .i64 0, .int .i64 0]) 2 16 Try.underlying58 hp0 hp1 hp2 hp3 rfl (by decide) (.slice none 0 0) 0 [] rfl hwn.out ⟨bq, oq, none⟩ k3 k3 (eC ps) rfl SL.out S1.out S2.out s3 s4 s5 ?_)
      intro v1 w9 hown9 hg9 _
      try rw [Nat.zero_add, List.nil_append] at hown9
      have HO9 := Lib.hid hown9
      have HB9 := Lib.hid (HB8.out.grown hg9 s5 (fun j hj => by simp [Value.ownBlock] at hj))
      clear hown9 hg9 S1 S2 SL s3 s4 s5 hwn
      go_wp2_with fail
      go_meet
      exact ⟨HO9.out, HB9.out⟩
  case rest =>
  obtain ⟨hO0, hB0⟩ := hcut
  clear CP
  have HB0c := Lib.hid (below_next HB25.out hB0.out)
  -- the pairs by numbers
  go_wp2_with fail
  go_loopw [12, 15] (fun l v wr => ∃ q : Nat, q ≤ EM ∧ v = .int .i64 q ∧ Hid (wr.ownsRow w5.heap.size 64 2 l (qs ++ mpL n n2 (ms.take q)).length (eC (qs ++ mpL n n2 (ms.take q)))) ∧ Hid (Below w5.heap.size w5 wr)) (fun _ v _ => EM - (intOf v).toNat)
  case atStart =>
    refine ⟨0, Nat.zero_le _, rfl, ?_, hB0⟩
    have h := hO0.out
    rw [← HQL.out] at h
    show World.ownsRow _ _ _ _ _ _ _
    simpa [mpL] using h
  case round =>
    clear hO0 hB0 HB0c
    obtain ⟨q, hq, rfl, hO, hbr⟩ := hrel
    by_cases hqE : q < EM
    · have hqI : decide ((q : Int) < EM) = true := decide_eq_true (by omega)
      have hqI' : (q : Int) < EM := by omega
      obtain ⟨bm, om, rfl, hbm, hcm⟩ := HMS.out (by rw [HEM.out]; omega)
      obtain ⟨⟨sa, sb⟩, hms⟩ : ∃ x, ms[q]? = some x := ⟨_, List.getElem?_eq_getElem (by rw [HEM.out]; exact hqE)⟩
      obtain ⟨c0, c1, hsa, hsb⟩ := hcm q (sa, sb) hms
      dsimp only at c0 c1 hsa hsb
      have hbw := below_next HB25.out hbr.out
      have l0 := (hbw.cell (p := ⟨bm, om + q * 2, none⟩) hbm).trans c0
      have l1 := (hbw.cell (p := ⟨bm, om + q * 2 + 1, none⟩) hbm).trans c1
      obtain ⟨_, _, x2⟩ := (HMA.out.mvB (below_next HB5.out hbr.out)).cells
      obtain ⟨_, _, y2⟩ := (HMB.out.mvB (below_next HB5.out hbr.out)).cells
      have hw0 : IntKind.i64.wrap sa = sa := IntWalk.i64_in _ (by omega)
      have hw1 : IntKind.i64.wrap sb = sb := IntWalk.i64_in _ (by omega)
      have hn0 : ((n : Int) == 0) = false := by rw [beq_eq_false_iff_ne]; omega
      have hn0a : ¬ n = 0 := by omega
      have hn20 : ((n2 : Int) == 0) = false := by rw [beq_eq_false_iff_ne]; omega
      have hn20a : ¬ n2 = 0 := by omega
      obtain ⟨XX, hXX⟩ : ∃ XX, sa % (n : Int) = XX := ⟨_, rfl⟩
      obtain ⟨YY, hYY⟩ : ∃ YY, sb % (n2 : Int) = YY := ⟨_, rfl⟩
      have hX : sa.tmod (n : Int) = XX := by rw [Int.tmod_eq_emod_of_nonneg hsa.1]; exact hXX
      have hY : sb.tmod (n2 : Int) = YY := by rw [Int.tmod_eq_emod_of_nonneg hsb.1]; exact hYY
      have hX' : (IntKind.i64.wrap sa).tmod (n : Int) = XX := by rw [hw0, hX]
      have hY' : (IntKind.i64.wrap sb).tmod (n2 : Int) = YY := by rw [hw1, hY]
      have hnx : Hid (qs ++ mpL n n2 (ms.take (q + 1)) = (qs ++ mpL n n2 (ms.take q)) ++ [(XX, YY)]) := by
        show _ = _
        unfold mpL
        rw [List.take_add_one, hms, List.map_append, List.append_assoc, ← hXX, ← hYY]
        rfl
      have hln : (qs ++ mpL n n2 (ms.take q)).length ≤ 1000 := by
        rw [List.length_append, HQL.out]
        unfold mpL
        rw [List.length_map, List.length_take]
        omega
      obtain ⟨xs, hxs⟩ : ∃ xs, qs ++ mpL n n2 (ms.take q) = xs := ⟨_, rfl⟩
      rw [hxs] at hO hnx hln
      have hbs := hbr.out.size
      have hownE : (wr.alloc (.cells #[.int .i64 XX, .int .i64 YY] 64)).drew.ownsRow w5.heap.size 64 2 u12 xs.length (eC xs) := hO.out.alloc _
      have S1 := Lib.hid (cells_pairP wr XX YY)
      have S2 := Lib.hid (two_cells XX YY)
      have hbrE : Below w5.heap.size w5 (wr.alloc (.cells #[.int .i64 XX, .int .i64 YY] 64)).drew := (hbr.out.alloc hbs _).drew
      have s3 : xs.length + 1 ≤ maxLen := by unfold maxLen; omega
      have s4 : (xs.length + 1) * 16 ≤ 140737488355328 := by omega
      have s5 : w5.heap.size ≤ (wr.alloc (.cells #[.int .i64 XX, .int .i64 YY] 64)).drew.heap.size := by show _ ≤ (wr.alloc _).heap.size; simp; omega
      have HSX : ∀ wx : World, Below w5.heap.size w5 wx → (wx.cell? ⟨bm, om + q * 2, none⟩ = some (.int .u8 sa) ∧ wx.cell? ⟨bm, om + q * 2 + 1, none⟩ = some (.int .u8 sb) ∧ wx.cell? ⟨g, 2, none⟩ = some (.slice X n k) ∧ wx.cell? ⟨g + 1, 2, none⟩ = some (.slice Y n2 k2)) := fun wx hb => by
        have h1 := below_next HB25.out hb
        have h2 := below_next HB5.out hb
        exact ⟨(h1.cell (p := ⟨bm, om + q * 2, none⟩) hbm).trans c0, (h1.cell (p := ⟨bm, om + q * 2 + 1, none⟩) hbm).trans c1, (HMA.out.mvB h2).cells.2.2, (HMB.out.mvB h2).cells.2.2⟩
      have sw := HSX wr hbr.out
      have sv := HSX wr.drew hbr.out.drew
      have sd := HSX _ hbrE
      have se := HSX (wr.alloc (.cells #[.int .i64 XX, .int .i64 YY] 64)) (hbr.out.alloc hbs _)
      clear hXX hYY hms hcm hbw hO hxs hbr
      go_upto_region 21 with fail
      go_region_held3 (fun w' => w'.cell? ⟨bm, om + q * 2, none⟩ = some (.int .u8 sa) ∧ w'.cell? ⟨bm, om + q * 2 + 1, none⟩ = some (.int .u8 sb) ∧ w'.cell? ⟨g, 2, none⟩ = some (.slice X n k) ∧ w'.cell? ⟨g + 1, 2, none⟩ = some (.slice Y n2 k2))
        (first | (with_reducible exact sw) | (with_reducible exact sv) | (with_reducible exact sd) | (with_reducible exact se) | (with_reducible exact s1') | go_keep)
        ((refine step_append_lies _ rfl (.tmp 83) (.tmp 105) 58 rfl w5.heap.size 64 p0' (.agg #[.int .i64 0, .int .i64 0]) 2 16 Try.underlying58 hp0 hp1 hp2 hp3 rfl (by decide) u12 xs.length (eC xs) (by simp [Act.eval]) hownE ⟨wr.heap.size, 0, none⟩ 1 1 [.int .i64 XX, .int .i64 YY] (by simp [Act.eval]) rfl S1.out S2.out (by decide) s3 s4 s5 _ rfl ?_; intro g2 c3 w1 hown1 hg1 hat1 hlt1; have s1' := HSX w1 (hbrE.grown hg1 s5 (fun j hj => (hownE.lt j hj).1))))
      all_goals
        have hbr4 := Lib.hid (hbrE.grown hg1 s5 (fun j hj => (hownE.lt j hj).1))
        have hown2 : Hid (w1.ownsRow w5.heap.size 64 2 (.slice (some ⟨g2, 0, none⟩) (xs.length + 1) c3) (qs ++ mpL n n2 (ms.take (q + 1))).length (eC (qs ++ mpL n n2 (ms.take (q + 1))))) := by
          show World.ownsRow _ _ _ _ _ _ _
          rw [hnx.out, eC_app, eC_one, List.length_append]
          exact hown1
        clear hown1 hg1 hownE hat1 hlt1 S1 S2 s3 s4 s5 hbrE HSX sw sv sd se s1' c0 c1 l0 l1 x2 y2 hX hY hX' hY' hw0 hw1 hn0 hn0a hn20 hn20a
        go_wp2_with fail
        go_roundw
        case rel => exact ⟨q + 1, by omega, by go_num, hown2, hbr4⟩
        case measure => simp [intOf]; omega
    · have hqI : decide ((q : Int) < EM) = false := decide_eq_false (by omega)
      obtain rfl : q = EM := by omega
      obtain ⟨R1, hR1⟩ : ∃ R1, qs ++ mpL n n2 (ms.take q) = R1 := ⟨_, rfl⟩
      have hRin : Hid (∀ p ∈ R1, inR n n2 p) := fun p hp => by
        rw [← hR1] at hp
        rcases List.mem_append.1 hp with hp | hp
        · exact hqin.out p hp
        · exact mpL_in hn1 hn21 hp
      have hRl : R1.length ≤ 1000 := by
        rw [← hR1, List.length_append, HQL.out]
        unfold mpL
        rw [List.length_map, List.length_take]
        omega
      rw [hR1] at hO
      have hsub : Hid (∀ x ∈ qs, x ∈ R1) := fun x hx => by rw [← hR1]; exact List.mem_append_left _ hx
      obtain ⟨KR, hKR⟩ : ∃ KR, R1.length = KR := ⟨_, rfl⟩
      rw [hKR] at hO hRl
      obtain ⟨Z, cz, rfl⟩ := own_shapeP hO.out
      have HRZ := Lib.hid (RdP.of_ownP hO.out)
      have HKR := Lib.hid hKR
      clear hO hR1 hKR
      have HB6 := Lib.hid (below_next HB5.out hbr.out)
      have HRQ6 := Lib.hid (RdP.below' HRQ.out hbr.out)
      have HB26 := Lib.hid (below_next HB25.out hbr.out)
      obtain ⟨x0, x1, x2⟩ := (HMA.out.mvB HB6.out).cells
      obtain ⟨y0, y1, y2⟩ := (HMB.out.mvB HB6.out).cells
      go_wp2_with fail
      refine (CK.out wr Z KR cz R1 HB6.out HRZ.out HKR.out hRl hRin.out).mono ?_
      rintro e w7 ⟨b1, rfl, hb1, hb7⟩
      have HC1 := Lib.hid hb1
      have HB7 := Lib.hid (below_next HB6.out hb7)
      have HRZ7 := Lib.hid (HRZ.out.below hb7)
      have HRQ7 := Lib.hid (HRQ6.out.below hb7)
      have HB27 := Lib.hid (below_next HB26.out hb7)
      clear hb1 hb7 x0 x1 x2 y0 y1 y2 HRZ HRQ6 HB6 HB26 hbr
      obtain ⟨x0, x1, x2⟩ := (HMA.out.mvB HB7.out).cells
      obtain ⟨y0, y1, y2⟩ := (HMB.out.mvB HB7.out).cells
      go_wp2_with fail
      refine (CC.out w7 Z KR cz R1 HB7.out HRZ7.out HKR.out hRl hRin.out).mono ?_
      rintro e w8 ⟨z, rfl, hz1, hz0, hb8⟩
      have HB8 := Lib.hid (below_next HB7.out hb8)
      have HRZ8 := Lib.hid (HRZ7.out.below hb8)
      have HRQ8 := Lib.hid (HRQ7.out.below hb8)
      have HB28 := Lib.hid (below_next HB27.out hb8)
      have hcs : (b1 = true ∧ z = 1 ∧ is = true) ∨ (b1 = false ∧ z = 0) := by
        by_cases hP : CtfP m m2 R1
        · refine Or.inl ⟨HC1.out.2 hP, hz1.2 hP, ?_⟩
          have hS : Mc.Sim m m2 := Mc.cert_sim HVA.out HVB.out hii.out hP.2 hP.1 (by rw [HN.out, HN2.out]; exact hRin.out)
          rcases HCA.out with ⟨h, _⟩ | ⟨_, _, _, _, h⟩
          · exact h
          · exact absurd hS h
        · refine Or.inr ⟨?_, hz0.2 hP⟩
          cases b1 with
          | false => rfl
          | true => exact absurd (HC1.out.1 rfl) hP
      clear hz1 hz0 hb8 x0 x1 x2 y0 y1 y2 HRZ7 HRQ7 HB7 HB27 HC1
      rcases hcs with ⟨rfl, rfl, rfl⟩ | ⟨rfl, rfl⟩
      · skip
        have hkp : Hid (1 ≤ k3) := by
          show _ ≤ _
          rw [← HQL.out]
          rcases HCA.out with ⟨_, _, h, _⟩ | ⟨h, _⟩
          · exact List.length_pos_of_mem ((h 0 0).2 (Mc.PRk.zero m m2).pr)
          · cases h
        have hk1 := hkp.out
        obtain ⟨nn, hnn, hnk⟩ : ∃ nn : Nat, (q : Int).tmod (k3 : Int) = nn ∧ nn < k3 := ⟨q % k3, (Int.natCast_emod q k3 ▸ Int.tmod_eq_emod_of_nonneg (by omega)), Nat.mod_lt _ hk1⟩
        have hk0 : ((k3 : Int) == 0) = false := by rw [beq_eq_false_iff_ne]; omega
        have hk0a : ¬ k3 = 0 := by omega
        have hkI : (0 : Int) < k3 := by omega
        have hkd : decide ((0 : Int) < k3) = true := decide_eq_true hkI
        have hkN : 0 < k3 := hk1
        have hkNd : decide (0 < k3) = true := decide_eq_true hkN
        obtain ⟨⟨e0, e1⟩, hqe⟩ : ∃ x, qs[nn]? = some x := ⟨_, List.getElem?_eq_getElem (by rw [HQL.out]; exact hnk)⟩
        have HQE := Lib.hid hqe
        have HNK := Lib.hid hnk
        clear hqe hkp
        go_wp2_with fail
        have hnkI : (nn : Int) < k3 := by have := HNK.out; omega
        clear hnn hk0 hk0a hkI hkd hkN hkNd hk1
        go_loopw [18, 20] (fun l v wr => ∃ p : Nat, p ≤ KR ∧ v = .int .i64 p ∧ Hid (wr.ownsRow w8.heap.size 64 2 l ((R1.take p).filter (fun x => !(x == (e0, e1)))).length (eC ((R1.take p).filter (fun x => !(x == (e0, e1)))))) ∧ Hid (Below w8.heap.size w8 wr)) (fun _ v _ => KR - (intOf v).toNat)
        case atStart => exact ⟨0, Nat.zero_le _, rfl, World.ownsRow_nil _ _ _ _, Below.refl _ _⟩
        case round =>
          obtain ⟨p, hp, rfl, hL, hbr⟩ := hrel
          by_cases hpK : p < KR
          · have hpI : decide ((p : Int) < KR) = true := decide_eq_true (by omega)
            have hpI' : (p : Int) < KR := by omega
            obtain ⟨ba, oa, f0, f1, hZa, hba, ca0, ca1, hxa⟩ := HRZ8.out.at_ (k := p) (by rw [HKR.out]; exact hpK)
            obtain ⟨bq, oq, g0, g1, hXq, hbq, cq0, cq1, hxq⟩ := HRQ8.out.at_ (k := nn) (by rw [HQL.out]; exact HNK.out)
            have hge : ((g0, g1) : Int × Int) = (e0, e1) := by have := hxq.out; rw [HQE.out] at this; injection this with this; exact this.symm
            injection hge with hg0 hg1
            subst hg0 hg1
            subst hZa hXq
            have l0 := (hbr.out.cell (p := ⟨ba, oa + p * 2, none⟩) hba).trans ca0
            have l1 := (hbr.out.cell (p := ⟨ba, oa + p * 2 + 1, none⟩) hba).trans ca1
            have l2 := (hbr.out.cell (p := ⟨bq, oq + nn * 2, none⟩) hbq).trans cq0
            have l3 := (hbr.out.cell (p := ⟨bq, oq + nn * 2 + 1, none⟩) hbq).trans cq1
            obtain ⟨β, hβ⟩ : ∃ β, ((f0 == g0) && (f1 == g1)) = β := ⟨_, rfl⟩
            have hrun : ∀ w, (binOp .neq 64 (.agg #[.int .i64 f0, .int .i64 f1]) (.agg #[.int .i64 g0, .int .i64 g1])).run Try.prog w = .ok (.bool (!β)) w := fun w => by rw [run_neq_pair, hβ]
            have hfl : Hid ((R1.take (p + 1)).filter (fun x => !(x == (g0, g1))) = (R1.take p).filter (fun x => !(x == (g0, g1))) ++ (if β = false then [(f0, f1)] else [])) := by
              show _ = _
              rw [List.take_add_one, hxa.out, List.filter_append]
              congr 1
              have hb2 : (((f0, f1) : Int × Int) == (g0, g1)) = β := hβ
              cases β with
              | true => simp [hb2]
              | false => simp [hb2]
            clear hβ hxa hxq ca0 ca1 cq0 cq1
            go_upto_region 31 with fail
            go_quiet (fail)
            have hbr2 := Lib.hid (below_drewN' hbr.out nq)
            have hL2 : Hid ((wr.drewN nq).ownsRow w8.heap.size 64 2 u18 ((R1.take p).filter (fun x => !(x == (g0, g1)))).length (eC ((R1.take p).filter (fun x => !(x == (g0, g1)))))) := own_below hL.out (below_drewN' (Below.refl _ _) nq)
            have l0' : (wr.drewN nq).cell? ⟨ba, oa + p * 2, none⟩ = some (.int .i64 f0) := l0
            have l1' : (wr.drewN nq).cell? ⟨ba, oa + p * 2 + 1, none⟩ = some (.int .i64 f1) := l1
            obtain ⟨Wq, hWq⟩ : ∃ W, wr.drewN nq = W := ⟨_, rfl⟩
            rw [hWq] at hbr2 hL2 l0' l1'
            rw [hWq]
            clear hWq hL hbr l0 l1 l2 l3 hrun
            cases β with
            | true =>
              go_wp2_with fail
              go_roundw
              case rel => exact ⟨p + 1, by omega, by go_num, by
                  rw [hfl.out]
                  show World.ownsRow _ _ _ _ _ _ _
                  simpa using hL2.out, hbr2⟩
              case measure => simp [intOf]; omega
            | false =>
              have hlb : ((R1.take p).filter (fun x => !(x == (g0, g1)))).length ≤ 1000000 := by
                have h1 := List.length_filter_le (fun x => !(x == ((g0, g1) : Int × Int))) (R1.take p)
                rw [List.length_take] at h1
                omega
              have hOo := hL2.out
              have hbo := hbr2.out
              have hbs := hbr2.out.size
              obtain ⟨xs, hxs⟩ : ∃ xs, (R1.take p).filter (fun x => !(x == (g0, g1))) = xs := ⟨_, rfl⟩
              rw [hxs] at hOo hlb hfl
              go_wp2_with (at_builtin; refine wpList_append_pairE _ f0 f1 (W0 := w8) hOo hlb hbs hbo rfl _ _ rfl rfl rfl ?_)
              intro v1 w1 hown1 hb1 _
              have hO1 : Hid (w1.ownsRow w8.heap.size 64 2 v1 ((R1.take (p + 1)).filter (fun x => !(x == (g0, g1)))).length (eC ((R1.take (p + 1)).filter (fun x => !(x == (g0, g1)))))) := by
                show World.ownsRow _ _ _ _ _ _ _
                rw [hfl.out]
                simp only [↓reduceIte]
                rw [List.length_append]
                exact hown1
              have HB1 := Lib.hid hb1
              clear hown1 hb1 hOo hbo hbs hL2 hbr2 hlb hxs l0' l1'
              go_wp2_with fail
              go_roundw
              case rel => exact ⟨p + 1, by omega, by go_num, hO1, HB1⟩
              case measure => simp [intOf]; omega
          · have hpI : decide ((p : Int) < KR) = false := decide_eq_false (by omega)
            obtain rfl : p = KR := by omega
            obtain ⟨L, hLd⟩ : ∃ L, (R1.take p).filter (fun x => !(x == (e0, e1))) = L := ⟨_, rfl⟩
            have hLm : Hid (∀ x ∈ L, x ∈ R1 ∧ x ≠ (e0, e1)) := fun x hx => by
              rw [← hLd] at hx
              obtain ⟨h1, h2⟩ := List.mem_filter.1 hx
              exact ⟨List.mem_of_mem_take h1, fun e => by rw [e] at h2; simp at h2⟩
            have hLl : L.length ≤ 1000 := by
              rw [← hLd]
              have h1 := List.length_filter_le (fun x => !(x == ((e0, e1) : Int × Int))) (R1.take p)
              rw [List.length_take] at h1
              omega
            rw [hLd] at hL
            obtain ⟨Y9, c9, rfl⟩ := own_shapeP hL.out
            have HRL := Lib.hid (RdP.of_ownP hL.out)
            clear hL hLd
            have HB9 := Lib.hid (below_next HB8.out hbr.out)
            have HB29 := Lib.hid (below_next HB28.out hbr.out)
            obtain ⟨x0, x1, x2⟩ := (HMA.out.mvB HB9.out).cells
            obtain ⟨y0, y1, y2⟩ := (HMB.out.mvB HB9.out).cells
            obtain ⟨KL, hKL⟩ : ∃ KL, L.length = KL := ⟨_, rfl⟩
            rw [hKL] at hLl
            have HKL := Lib.hid hKL
            have CKL : Hid (Calls Try.prog 31 #[.agg #[.int .i64 i, .int .i64 ao, .slice X n k], .agg #[.int .i64 i, .int .i64 bo, .slice Y n2 k2], .slice Y9 L.length c9] wr (CkP wr m m2 L)) := by
              show Calls _ _ _ _ _
              rw [hKL]
              exact CK.out wr Y9 KL c9 L HB9.out HRL.out HKL.out hLl (fun x hx => hRin.out x (hLm.out x hx).1)
            clear hKL
            go_wp2_with fail
            refine CKL.out.mono ?_
            rintro e w9 ⟨b9, rfl, hb9, hbl9⟩
            have hno : b9 = false := by
              cases b9 with
              | false => rfl
              | true =>
                have hP := hb9.1 rfl
                have hm : (e0, e1) ∈ L := by
                  rcases HCA.out with ⟨_, _, h, _⟩ | ⟨h, _⟩
                  · exact Mc.cert_sub hP.2 hP.1 ((h e0 e1).1 (List.mem_of_getElem? HQE.out))
                  · cases h
                exact absurd rfl (hLm.out _ hm).2
            subst hno
            have HBF := Lib.hid (below_next HB29.out hbl9)
            clear hb9 hbl9 x0 x1 x2 y0 y1 y2
            go_wp2_with fail
            refine (elives_walk _).mono ?_
            rintro e wl ⟨rfl, hbl⟩
            have hfin := Lib.hid (below_next HBF.out hbl)
            clear hbl
            go_wp2_with fail
            go_ret
            exact ⟨rfl, hfin.out⟩
      · cases is with
        | false =>
          go_wp2_with fail
          refine (elives_walk _).mono ?_
          rintro e wl ⟨rfl, hbl⟩
          have hfin := Lib.hid (below_next HB28.out hbl)
          clear hbl
          go_wp2_with fail
          go_ret
          exact ⟨rfl, hfin.out⟩
        | true =>
          have hkp : Hid (1 ≤ k3) := by
            show _ ≤ _
            rw [← HQL.out]
            rcases HCA.out with ⟨_, _, h, _⟩ | ⟨h, _⟩
            · exact List.length_pos_of_mem ((h 0 0).2 (Mc.PRk.zero m m2).pr)
            · cases h
          have hk1 := hkp.out
          obtain ⟨nn, hnn, hnk⟩ : ∃ nn : Nat, (q : Int).tmod (k3 : Int) = nn ∧ nn < k3 := ⟨q % k3, (Int.natCast_emod q k3 ▸ Int.tmod_eq_emod_of_nonneg (by omega)), Nat.mod_lt _ hk1⟩
          have hk0 : ((k3 : Int) == 0) = false := by rw [beq_eq_false_iff_ne]; omega
          have hk0a : ¬ k3 = 0 := by omega
          have hkI : (0 : Int) < k3 := by omega
          have hkd : decide ((0 : Int) < k3) = true := decide_eq_true hkI
          have hkN : 0 < k3 := hk1
          have hkNd : decide (0 < k3) = true := decide_eq_true hkN
          obtain ⟨⟨e0, e1⟩, hqe⟩ : ∃ x, qs[nn]? = some x := ⟨_, List.getElem?_eq_getElem (by rw [HQL.out]; exact hnk)⟩
          have HQE := Lib.hid hqe
          have HNK := Lib.hid hnk
          clear hqe hkp
          go_wp2_with fail
          have hnkI : (nn : Int) < k3 := by have := HNK.out; omega
          clear hnn hk0 hk0a hkI hkd hkN hkNd hk1
          go_loopw [18, 20] (fun l v wr => ∃ p : Nat, p ≤ KR ∧ v = .int .i64 p ∧ Hid (wr.ownsRow w8.heap.size 64 2 l ((R1.take p).filter (fun x => !(x == (e0, e1)))).length (eC ((R1.take p).filter (fun x => !(x == (e0, e1)))))) ∧ Hid (Below w8.heap.size w8 wr)) (fun _ v _ => KR - (intOf v).toNat)
          case atStart => exact ⟨0, Nat.zero_le _, rfl, World.ownsRow_nil _ _ _ _, Below.refl _ _⟩
          case round =>
            obtain ⟨p, hp, rfl, hL, hbr⟩ := hrel
            by_cases hpK : p < KR
            · have hpI : decide ((p : Int) < KR) = true := decide_eq_true (by omega)
              have hpI' : (p : Int) < KR := by omega
              obtain ⟨ba, oa, f0, f1, hZa, hba, ca0, ca1, hxa⟩ := HRZ8.out.at_ (k := p) (by rw [HKR.out]; exact hpK)
              obtain ⟨bq, oq, g0, g1, hXq, hbq, cq0, cq1, hxq⟩ := HRQ8.out.at_ (k := nn) (by rw [HQL.out]; exact HNK.out)
              have hge : ((g0, g1) : Int × Int) = (e0, e1) := by have := hxq.out; rw [HQE.out] at this; injection this with this; exact this.symm
              injection hge with hg0 hg1
              subst hg0 hg1
              subst hZa hXq
              have l0 := (hbr.out.cell (p := ⟨ba, oa + p * 2, none⟩) hba).trans ca0
              have l1 := (hbr.out.cell (p := ⟨ba, oa + p * 2 + 1, none⟩) hba).trans ca1
              have l2 := (hbr.out.cell (p := ⟨bq, oq + nn * 2, none⟩) hbq).trans cq0
              have l3 := (hbr.out.cell (p := ⟨bq, oq + nn * 2 + 1, none⟩) hbq).trans cq1
              obtain ⟨β, hβ⟩ : ∃ β, ((f0 == g0) && (f1 == g1)) = β := ⟨_, rfl⟩
              have hrun : ∀ w, (binOp .neq 64 (.agg #[.int .i64 f0, .int .i64 f1]) (.agg #[.int .i64 g0, .int .i64 g1])).run Try.prog w = .ok (.bool (!β)) w := fun w => by rw [run_neq_pair, hβ]
              have hfl : Hid ((R1.take (p + 1)).filter (fun x => !(x == (g0, g1))) = (R1.take p).filter (fun x => !(x == (g0, g1))) ++ (if β = false then [(f0, f1)] else [])) := by
                show _ = _
                rw [List.take_add_one, hxa.out, List.filter_append]
                congr 1
                have hb2 : (((f0, f1) : Int × Int) == (g0, g1)) = β := hβ
                cases β with
                | true => simp [hb2]
                | false => simp [hb2]
              clear hβ hxa hxq ca0 ca1 cq0 cq1
              go_upto_region 31 with fail
              go_quiet (fail)
              have hbr2 := Lib.hid (below_drewN' hbr.out nq)
              have hL2 : Hid ((wr.drewN nq).ownsRow w8.heap.size 64 2 u18 ((R1.take p).filter (fun x => !(x == (g0, g1)))).length (eC ((R1.take p).filter (fun x => !(x == (g0, g1)))))) := own_below hL.out (below_drewN' (Below.refl _ _) nq)
              have l0' : (wr.drewN nq).cell? ⟨ba, oa + p * 2, none⟩ = some (.int .i64 f0) := l0
              have l1' : (wr.drewN nq).cell? ⟨ba, oa + p * 2 + 1, none⟩ = some (.int .i64 f1) := l1
              obtain ⟨Wq, hWq⟩ : ∃ W, wr.drewN nq = W := ⟨_, rfl⟩
              rw [hWq] at hbr2 hL2 l0' l1'
              rw [hWq]
              clear hWq hL hbr l0 l1 l2 l3 hrun
              cases β with
              | true =>
                go_wp2_with fail
                go_roundw
                case rel => exact ⟨p + 1, by omega, by go_num, by
                    rw [hfl.out]
                    show World.ownsRow _ _ _ _ _ _ _
                    simpa using hL2.out, hbr2⟩
                case measure => simp [intOf]; omega
              | false =>
                have hlb : ((R1.take p).filter (fun x => !(x == (g0, g1)))).length ≤ 1000000 := by
                  have h1 := List.length_filter_le (fun x => !(x == ((g0, g1) : Int × Int))) (R1.take p)
                  rw [List.length_take] at h1
                  omega
                have hOo := hL2.out
                have hbo := hbr2.out
                have hbs := hbr2.out.size
                obtain ⟨xs, hxs⟩ : ∃ xs, (R1.take p).filter (fun x => !(x == (g0, g1))) = xs := ⟨_, rfl⟩
                rw [hxs] at hOo hlb hfl
                go_wp2_with (at_builtin; refine wpList_append_pairE _ f0 f1 (W0 := w8) hOo hlb hbs hbo rfl _ _ rfl rfl rfl ?_)
                intro v1 w1 hown1 hb1 _
                have hO1 : Hid (w1.ownsRow w8.heap.size 64 2 v1 ((R1.take (p + 1)).filter (fun x => !(x == (g0, g1)))).length (eC ((R1.take (p + 1)).filter (fun x => !(x == (g0, g1)))))) := by
                  show World.ownsRow _ _ _ _ _ _ _
                  rw [hfl.out]
                  simp only [↓reduceIte]
                  rw [List.length_append]
                  exact hown1
                have HB1 := Lib.hid hb1
                clear hown1 hb1 hOo hbo hbs hL2 hbr2 hlb hxs l0' l1'
                go_wp2_with fail
                go_roundw
                case rel => exact ⟨p + 1, by omega, by go_num, hO1, HB1⟩
                case measure => simp [intOf]; omega
            · have hpI : decide ((p : Int) < KR) = false := decide_eq_false (by omega)
              obtain rfl : p = KR := by omega
              obtain ⟨L, hLd⟩ : ∃ L, (R1.take p).filter (fun x => !(x == (e0, e1))) = L := ⟨_, rfl⟩
              have hLm : Hid (∀ x ∈ L, x ∈ R1 ∧ x ≠ (e0, e1)) := fun x hx => by
                rw [← hLd] at hx
                obtain ⟨h1, h2⟩ := List.mem_filter.1 hx
                exact ⟨List.mem_of_mem_take h1, fun e => by rw [e] at h2; simp at h2⟩
              have hLl : L.length ≤ 1000 := by
                rw [← hLd]
                have h1 := List.length_filter_le (fun x => !(x == ((e0, e1) : Int × Int))) (R1.take p)
                rw [List.length_take] at h1
                omega
              rw [hLd] at hL
              obtain ⟨Y9, c9, rfl⟩ := own_shapeP hL.out
              have HRL := Lib.hid (RdP.of_ownP hL.out)
              clear hL hLd
              have HB9 := Lib.hid (below_next HB8.out hbr.out)
              have HB29 := Lib.hid (below_next HB28.out hbr.out)
              obtain ⟨x0, x1, x2⟩ := (HMA.out.mvB HB9.out).cells
              obtain ⟨y0, y1, y2⟩ := (HMB.out.mvB HB9.out).cells
              obtain ⟨KL, hKL⟩ : ∃ KL, L.length = KL := ⟨_, rfl⟩
              rw [hKL] at hLl
              have HKL := Lib.hid hKL
              have CKL : Hid (Calls Try.prog 31 #[.agg #[.int .i64 i, .int .i64 ao, .slice X n k], .agg #[.int .i64 i, .int .i64 bo, .slice Y n2 k2], .slice Y9 L.length c9] wr (CkP wr m m2 L)) := by
                show Calls _ _ _ _ _
                rw [hKL]
                exact CK.out wr Y9 KL c9 L HB9.out HRL.out HKL.out hLl (fun x hx => hRin.out x (hLm.out x hx).1)
              clear hKL
              go_wp2_with fail
              refine CKL.out.mono ?_
              rintro e w9 ⟨b9, rfl, hb9, hbl9⟩
              have hno : b9 = false := by
                cases b9 with
                | false => rfl
                | true =>
                  have hP := hb9.1 rfl
                  have hm : (e0, e1) ∈ L := by
                    rcases HCA.out with ⟨_, _, h, _⟩ | ⟨h, _⟩
                    · exact Mc.cert_sub hP.2 hP.1 ((h e0 e1).1 (List.mem_of_getElem? HQE.out))
                    · cases h
                  exact absurd rfl (hLm.out _ hm).2
              subst hno
              have HBF := Lib.hid (below_next HB29.out hbl9)
              clear hb9 hbl9 x0 x1 x2 y0 y1 y2
              go_wp2_with fail
              refine (elives_walk _).mono ?_
              rintro e wl ⟨rfl, hbl⟩
              have hfin := Lib.hid (below_next HBF.out hbl)
              clear hbl
              go_wp2_with fail
              go_ret
              exact ⟨rfl, hfin.out⟩
end Go.Proofs.Ytomgofgbfdcmhaa
