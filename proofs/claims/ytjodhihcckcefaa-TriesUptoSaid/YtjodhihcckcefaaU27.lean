/-
  Contract: Count. No statement is proved here.
-/
import Derived.Test.YtjodhihcckcefaaU26
namespace Go.Proofs.Ytjodhihcckcefaa
open Go.RowKit Go.Maps

/-- How many nodes have no next one. -/
def lvs (ns : List Nd) : Nat := (ns.filter fun x => !nxB x.1).length
theorem lvs_step {ns : List Nd} {k : Nat} {x : Nd} (h : ns[k]? = some x) : lvs (ns.take (k + 1)) = lvs (ns.take k) + if nxB x.1 = false then 1 else 0 := by
  unfold lvs
  rw [List.take_add_one, h, List.filter_append, List.length_append]
  cases hn : nxB x.1 <;> simp [hn]
theorem lvs_le (ns : List Nd) (k : Nat) : lvs (ns.take k) ≤ k := by
  unfold lvs
  have := List.length_filter_le (fun x : Nd => !nxB x.1) (ns.take k)
  rw [List.length_take] at this
  omega
set_option maxRecDepth 100000 in
set_option maxHeartbeats 2000000 in
theorem tcount_any (A : Option Addr) (c N : Nat) (ns : List Nd) (Kz : List (List Int)) (I : Int) (w : World) (h : RdN w A ns) (hN : ns.length = N) (hm : N ≤ 9223372036854775807) (hK : 1 ≤ I → I ≤ 16 → fmB I ns = true → Keyz ns Kz) (R : Int) (hR : wzE I ns Kz = R) :
    Calls Try.prog 45 #[.agg #[.int .i64 I, .slice A N c]] w fun e w' => e = .returned (.tuple #[.int .i64 (if R = 0 then (lvs ns : Int) else 0), .int .i64 R]) ∧ Below w.heap.size w w' := by
  obtain ⟨W, hW⟩ : ∃ W, w.alloc (.cells #[.int .i64 I, .slice A N c] 56) = W := ⟨_, rfl⟩
  have bW : Below w.heap.size w W := by rw [← hW]; exact (Below.refl _ _).alloc (Nat.le_refl _) _
  have xW : Bx2 W w.heap.size 56 (.int .i64 I) (.slice A N c) := by rw [← hW]; exact Bx2.new _ _ _ _
  have CW := Lib.hid (twords_any A c N ns Kz I W (h.below bW) hN hm hK R hR)
  obtain ⟨x0, x1, _, _⟩ := xW.cells
  have HH := Lib.hid (h.below bW)
  have HN := Lib.hid hN
  have XW := Lib.hid xW
  have BW := Lib.hid bW
  by_cases hz : R = 0
  · subst hz
    have hok : 1 ≤ I ∧ I ≤ 16 ∧ fmB I ns = true ∧ M.chE (enz Kz ns) I = 0 := by
      rcases Classical.em (1 ≤ I ∧ I ≤ 16 ∧ fmB I ns = true ∧ M.chE (enz Kz ns) I = 0) with h1 | h1
      · exact h1
      · rw [wzE_bad h1] at hR; cases hR
    obtain ⟨hN2, hfm⟩ := fmB_fmr hN hok.2.2.1
    have HI : Hid (∀ (k : Nat) (x : Nd), ns[k]? = some x → x.1.length ≤ 16) := fun k x hx => by
      have hN0 : N ≠ 0 := fun e => by have := (List.getElem?_eq_some_iff.1 hx).1; omega
      have := (fmr_node (hfm.resolve_left hN0) k x hx).2.1
      have := hok.2.1
      omega
    rw [if_pos rfl]
    clear h hN hK hR bW xW hok hfm
    go_enter Try.func45, Try.ntmps45
    go_wp2_with fail
    refine CW.out.mono ?_
    rintro e w2 ⟨A2, q2, rfl, hq2, hx2, hb2⟩
    have B2 := Lib.hid hb2
    obtain ⟨x0, x1, _, _⟩ := (XW.out.below hb2).cells
    clear CW hq2 hx2 hb2
    obtain ⟨W2, rfl⟩ : ∃ W2 : World, W2 = w2 := ⟨_, rfl⟩
    go_wp2
    go_loopw [6, 20] (fun u v wr => ∃ k : Nat, k ≤ N ∧ u = .int .i64 (lvs (ns.take k)) ∧ v = .int .i64 k ∧ Hid (Below W2.heap.size W2 wr)) (fun _ v _ => N - (intOf v).toNat)
    case atStart => exact ⟨0, Nat.zero_le _, rfl, rfl, Below.refl _ _⟩
    case round =>
      clear x0 x1
      obtain ⟨k, hk, rfl, rfl, hb⟩ := hrel
      by_cases hlt : k < N
      · obtain ⟨x, hx⟩ : ∃ x, ns[k]? = some x := ⟨_, List.getElem?_eq_getElem (by rw [HN.out]; exact hlt)⟩
        obtain ⟨b, off, B, cc, q, rfl, hbl, hc0, hc1, hrd, hq⟩ := ((HH.out.below B2.out).below hb.out).at_ hx
        have hst := lvs_step hx
        have hle := lvs_le ns k
        have hxl := HI.out k x hx
        obtain ⟨xs, xe⟩ := x
        simp only at hc1 hrd hq hst hxl
        rw [hq.out] at hxl
        obtain ⟨X, hX⟩ : ∃ X, wr.alloc (.cells #[.slice B q cc, .bool xe] 64) = X := ⟨_, rfl⟩
        have bX : Below wr.heap.size wr X := by rw [← hX]; exact (Below.refl _ _).alloc (Nat.le_refl _) _
        have xX : Bx2 X wr.heap.size 64 (.slice B q cc) (.bool xe) := by rw [← hX]; exact Bx2.new _ _ _ _
        obtain ⟨y0, y1, _, _⟩ := xX.cells
        have CL := Lib.hid (isLeaf_any B q cc xs xe X (hrd.below bX) hq.out (by omega))
        have BX := Lib.hid (below_next hb.out bX)
        have hXN := hX
        obtain ⟨t, ht⟩ : ∃ t, lvs (ns.take k) = t := ⟨_, rfl⟩
        rw [ht] at hst hle ⊢
        have HT := Lib.hid hst
        clear hX hx hrd hq xX hb hst ht bX
        cases hnb : nxB xs with
        | true =>
          rw [hnb] at CL HT
          have HT2 : Hid (lvs (ns.take (k + 1)) = t) := by show _ = _; have := HT.out; simpa using this
          go_wp2_with fail
          refine CL.out.mono ?_
          rintro e w3 ⟨rfl, hb3⟩
          have HF := Lib.hid (below_next BX.out hb3)
          clear hb3 CL hnb
          go_wp2
          go_roundw
          case rel => exact ⟨k + 1, by omega, by rw [HT2.out], by go_num, HF⟩
          case measure => simp [intOf]; omega
        | false =>
          rw [hnb] at CL HT
          have HT2 : Hid (lvs (ns.take (k + 1)) = t + 1) := by show _ = _; have := HT.out; simpa using this
          go_wp2_with fail
          refine CL.out.mono ?_
          rintro e w3 ⟨rfl, hb3⟩
          have HF := Lib.hid (below_next BX.out hb3)
          clear hb3 CL hnb
          go_wp2
          go_roundw
          case rel => exact ⟨k + 1, by omega, by rw [HT2.out]; go_num, by go_num, HF⟩
          case measure => simp [intOf]; omega
      · obtain rfl : k = N := by omega
        have hall : ns.take k = ns := List.take_of_length_le (by rw [HN.out]; omega)
        rw [hall]
        have HF := Lib.hid (below_next (below_next BW.out B2.out) hb.out)
        go_wp2
        go_ret2
        exact ⟨rfl, HF.out⟩
  · have hz1 : (R != 0) = true := by simpa using hz
    rw [if_neg hz]
    clear h hN hK hR bW xW hz
    go_enter Try.func45, Try.ntmps45
    go_wp2_with fail
    refine CW.out.mono ?_
    rintro e w2 ⟨A2, q2, rfl, hq2, hx2, hb2⟩
    have HF := Lib.hid (below_next BW.out hb2)
    clear hq2 hx2 hb2 CW
    go_wp2
    go_ret2
    exact ⟨rfl, HF.out⟩
end Go.Proofs.Ytjodhihcckcefaa
