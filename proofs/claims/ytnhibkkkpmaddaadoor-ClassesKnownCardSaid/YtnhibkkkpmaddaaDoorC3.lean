/-
  Contracts: the reference's Meet and Finer.
-/
import Derived.Test.YtnhibkkkpmaddaaDoorC2
import Derived.Deep.AppendLies
import Derived.Deep.RegionLaw
import Derived.BigRegion
namespace Go.Proofs.YtnhibkkkpmaddaaDoor
open Go.RowKit

set_option maxHeartbeats 1000000 in
theorem rfiner_any (A B : Option Addr) (c d : Nat) (p q : List Int) (w : World) (hp : Rd w A p) (hq : Rd w B q) (he : p.length = q.length) (h1 : p.length ≤ 300) :
    Calls Tryd.prog 29 #[.slice A p.length c, .slice B q.length d] w fun e w' => e = .returned (.int .i64 (M.finI p q)) ∧ Below w.heap.size w w' := by
  have HE := Lib.hid he
  clear he
  go_enter Tryd.func29, Tryd.ntmps29
  go_wp2
  go_loopw [5] (fun i wr => ∃ k : Nat, k ≤ p.length ∧ i = .int .i64 k ∧ Hid (M.Fi p q k) ∧ Below w.heap.size w wr) (fun i _ => p.length - (intOf i).toNat)
  case atStart => exact ⟨0, Nat.zero_le _, rfl, M.Fi.start _ _, Below.refl _ _⟩
  case round =>
    obtain ⟨k, hk, rfl, hn, hbr⟩ := hrel
    by_cases hlt : k < p.length
    · obtain ⟨b, off, rfl⟩ := hp.opn (by omega)
      obtain ⟨b2, off2, rfl⟩ := hq.opn (by have := HE.out; omega)
      go_wp2
      go_loopw [6] (fun i wq => ∃ s : Nat, s ≤ k ∧ i = .int .i64 s ∧ Hid (M.Fk p q k s) ∧ Below w.heap.size w wq) (fun i _ => k - (intOf i).toNat)
      case atStart => exact ⟨0, Nat.zero_le _, rfl, M.Fk.start _ _ _, hbr⟩
      case round =>
        obtain ⟨s, hs, rfl, hf, hbq⟩ := hrel
        clear hbr
        by_cases hsk : s < k
        · obtain ⟨x, hb, hc, hx⟩ := (hp.below hbq).cl hlt
          obtain ⟨y, _, hc2, hy⟩ := (hp.below hbq).cl (k := s) (by omega)
          obtain ⟨u, hb2, hc3, hu⟩ := (hq.below hbq).cl (k := k) (by have := HE.out; omega)
          obtain ⟨v, _, hc4, hv⟩ := (hq.below hbq).cl (k := s) (by have := HE.out; omega)
          have hsl : s < p.length := by omega
          have hkq : (k : Int) < q.length := by have := HE.out; omega
          have hsq : (s : Int) < q.length := by have := HE.out; omega
          by_cases hxy : x = y
          · subst hxy
            by_cases huv : u = v
            · subst huv
              have hf' : Hid (M.Fk p q k (s + 1)) := hf.out.step (by intro hb; exact hb.2 (by rw [hu.out, hv.out]))
              clear hf
              go_wp2
              go_quiet (fail)
              go_wp2
              go_roundw
              case rel => exact ⟨s + 1, by omega, by go_num, hf', below_drewN' hbq _⟩
              case measure => simp [intOf] <;> omega
            · have hfin : Hid (M.finI p q = 0) := M.finI_no (M.not_fin hlt hsk ⟨by rw [hx.out, hy.out], by rw [hu.out, hv.out]; exact huv⟩)
              have hne : (u != v) = true := by simpa using huv
              clear hf
              go_wp2
              go_quiet (fail)
              go_wp2
              go_ret
              exact ⟨ret_int hfin.out.symm, below_drewN' hbq _⟩
          · have hf' : Hid (M.Fk p q k (s + 1)) := hf.out.step (by intro hb; exact hxy (by rw [← hx.out, ← hy.out]; exact hb.1))
            have hne : (x == y) = false := by simpa using hxy
            clear hf
            go_wp2
            go_quiet (fail)
            go_wp2
            go_roundw
            case rel => exact ⟨s + 1, by omega, by go_num, hf', below_drewN' hbq _⟩
            case measure => simp [intOf] <;> omega
        · have : s = k := by omega
          subst this
          have hn' : Hid (M.Fi p q (s + 1)) := hn.out.step hf.out
          clear hf hn
          go_wp2
          go_roundw
          case rel => exact ⟨s + 1, by omega, by go_num, hn', hbq⟩
          case measure => simp [intOf] <;> omega
    · have : k = p.length := by omega
      subst this
      have hfin : Hid (M.finI p q = 1) := M.finI_yes hn.out.fin
      go_wp2
      go_ret
      exact ⟨ret_int hfin.out.symm, hbr⟩

theorem rof_at (A : Option Addr) (c m : Nat) (zs : List Int) (w : World) (h : Rd w A zs) (e : zs.length = m) (h1 : m ≤ 300) :
    Calls Tryd.prog 21 #[.slice A m c] w (Built w (M.ofL zs)) := by
  subst e
  exact rof_any A c zs w h h1

set_option maxRecDepth 100000 in
set_option maxHeartbeats 1000000 in
theorem rmeet_any (A B : Option Addr) (c d : Nat) (p q : List Int) (w : World) (hp : Rd w A p) (hq : Rd w B q) (h1 : p.length ≤ 256) (he : p.length = q.length) (hv : ∀ z ∈ p, 0 ≤ z ∧ z ≤ 1000) (hv2 : ∀ z ∈ q, 0 ≤ z ∧ z ≤ 1000) :
    Calls Tryd.prog 27 #[.slice A p.length c, .slice B q.length d] w (Built w (M.meet p q)) := by
  have HE := Lib.hid he
  have HV := Lib.hid hv
  have HV2 := Lib.hid hv2
  clear he hv hv2
  obtain ⟨i0, hi0, hz0, hz1, hz2⟩ := info_parts int_info
  go_enter Tryd.func27, Tryd.ntmps27
  go_wp2
  go_loopw [5, 6] (fun v i wr => ∃ (k : Nat) (xs : List Int) (A2 : Option Addr) (c2 : Nat), k ≤ p.length ∧ i = .int .i64 k ∧ v = .slice A2 k c2 ∧ wr.ownsRow w.heap.size 3 1 (.slice A2 k c2) k (ints xs) ∧ Hid (xs = M.mr p q k) ∧ Below w.heap.size w wr) (fun _ i _ => p.length - (intOf i).toNat)
  case atStart => exact ⟨0, [], none, 0, Nat.zero_le _, rfl, rfl, World.ownsRow_nil w _ _ _, rfl, Below.refl _ _⟩
  case round =>
    obtain ⟨k, xs, A2, c2, hk, rfl, rfl, hown, hxs, hbr⟩ := hrel
    by_cases hlt : k < p.length
    · obtain ⟨b, off, rfl⟩ := hp.opn (by omega)
      obtain ⟨b2, off2, rfl⟩ := hq.opn (by have := HE.out; omega)
      obtain ⟨x, hb, hc, hx⟩ := (hp.below hbr).cl hlt
      obtain ⟨u, hb2, hc3, hu⟩ := (hq.below hbr).cl (k := k) (by have := HE.out; omega)
      have hkq : (k : Int) < q.length := by have := HE.out; omega
      obtain ⟨hx0, hx1⟩ := HV.out _ (M.gz_mem hlt)
      obtain ⟨hu0, hu1⟩ := HV2.out _ (M.gz_mem (l := q) (i := k) (by have := HE.out; omega))
      rw [hx.out] at hx0 hx1
      rw [hu.out] at hu0 hu1
      have hsz := hbr.size
      have hy0 : 0 ≤ x * 1000 := by omega
      have hy1 : x * 1000 ≤ 1000000 := by omega
      obtain ⟨Y, hY, hY2⟩ : ∃ Y, IntKind.i64.wrap (IntKind.i64.wrap (x * 1000) + u) = Y ∧ Hid (x * 1000 + u = Y) := ⟨x * 1000 + u, by rw [IntKind.wrap_i64, IntKind.wrap_i64]; omega, rfl⟩
      have hown' : (wr.alloc (.cells #[.int .i64 Y] 3)).drew.ownsRow w.heap.size 3 1 (.slice A2 k c2) k (ints xs) := hown.alloc _
      go_wp2
      have s1 : ∀ (j : Nat) (v : Value), ([.int .i64 Y] : List Value)[j]? = some v → (wr.alloc (.cells #[.int .i64 Y] 3)).drew.cell? ((⟨wr.heap.size, 0, none⟩ : Addr).add j) = some v := cell_one_new wr _ _
      have s2 : ∀ v ∈ ([.int .i64 Y] : List Value), v.oneCell' = true := by intro v hv; simp at hv; subst hv; rfl
      have s3 : k + 1 ≤ maxLen := by unfold maxLen; omega
      have s4 : (k + 1) * 8 ≤ 140737488355328 := by omega
      have s5 : w.heap.size ≤ (wr.alloc (.cells #[.int .i64 Y] 3)).drew.heap.size := by simp; omega
      have S1 := Lib.hid s1
      have S2 := Lib.hid s2
      clear s1 s2
      go_region_law (refine step_append_lies _ rfl (.tmp 13) (.tmp 24) 22 rfl w.heap.size 3 i0 (.int .i64 0) 1 8 Tryd.underlying22 hi0 hz0 hz1 hz2 rfl (by decide) (.slice A2 k c2) k (ints xs) (by simp [Act.eval]) hown' ⟨wr.heap.size, 0, none⟩ 1 1 [.int .i64 Y] (by simp [Act.eval]) rfl S1.out S2.out (by decide) s3 s4 s5 _ rfl ?_; intro g2 c3 w1 hown1 hg1 hat1 hlt1)
      all_goals
        have hbr2 : Below w.heap.size w w1 := (below_drewN' (hbr.alloc hsz _) 1).grown hg1 (by simp; omega) (fun j hj => (hown'.lt j hj).1)
        have hown2 : w1.ownsRow w.heap.size 3 1 (.slice (some ⟨g2, 0, none⟩) (k + 1) c3) (k + 1) (ints (xs ++ [Y])) := by rw [← ints_snoc]; exact hown1
        have hxs' : Hid (xs ++ [Y] = M.mr p q (k + 1)) := by rw [Hid, M.mr_succ, hxs.out, hx.out, hu.out, hY2.out]
        clear hown1 hg1 hown' hown hY hat1 hlt1 S1 S2 s3 s4 s5
        go_wp2
        exact ⟨⟨k + 1, _, _, c3, by omega, by go_num, rfl, hown2, hxs', hbr2⟩, by simp [intOf] <;> omega⟩
    · have : k = p.length := by omega
      subst this
      rw [M.mr_done] at hxs
      have hr : Rd wr A2 xs := Rd.of_own hown
      have hl : xs.length = p.length := by rw [hxs.out, M.meetR_len]
      have hc := rof_at A2 c2 p.length xs wr hr hl (by omega)
      rw [hxs.out] at hc
      have hc : Calls Tryd.prog 21 #[.slice A2 p.length c2] wr (Built wr (M.meet p q)) := hc
      go_wp2_with fail
      refine hc.mono ?_
      rintro e w1 ⟨A3, c3, rfl, hr3, hc3, hb3⟩
      go_wp2
      go_ret
      exact ⟨A3, c3, rfl, hr3, hc3, below_next hbr hb3⟩
end Go.Proofs.YtnhibkkkpmaddaaDoor
