/-
  Contracts: the reference's Check, Of, Meet, Finer.
-/
import Derived.Test.YtnhibkkkpmaddaaDoorMem
namespace Go.Proofs.YtnhibkkkpmaddaaDoor
open Go.RowKit

/-- The places before i have their numbers. -/
def Okp (zs : List Int) (i : Nat) : Prop := ∀ j, j < i → M.gz zs j = M.gz (M.ofL zs) j
theorem Okp.start (zs : List Int) : Okp zs 0 := fun j h => absurd h (by omega)
theorem Okp.step {zs : List Int} {i : Nat} (h : Okp zs i) (h1 : M.gz zs i = M.gz (M.ofL zs) i) : Okp zs (i + 1) := fun j hj => by
  rcases Nat.lt_or_ge j i with h2 | h2
  · exact h j h2
  · have : j = i := by omega
    subst this; exact h1

set_option maxHeartbeats 1000000 in
theorem rcheck_in (b off : Nat) (c : Nat) (zs : List Int) (w : World) (h : Rd w (some ⟨b, off, none⟩) zs) (h1 : zs.length ≤ 256) :
    Calls Tryd.prog 10 #[.slice (some ⟨b, off, none⟩) zs.length c] w fun e w' => e = .returned (.int .i64 (M.pck zs)) ∧ Below w.heap.size w w' := by
  go_enter Tryd.func10, Tryd.ntmps10
  go_wp2
  go_loopw [3] (fun i wr => ∃ k : Nat, k ≤ zs.length ∧ i = .int .i64 k ∧ Hid (Okp zs k) ∧ Below w.heap.size w wr) (fun i _ => zs.length - (intOf i).toNat)
  case atStart => exact ⟨0, Nat.zero_le _, rfl, Okp.start _, Below.refl _ _⟩
  case round =>
    obtain ⟨k, hk, rfl, hn, hbr⟩ := hrel
    by_cases hlt : k < zs.length
    · obtain ⟨z, hb, hc, hz⟩ := (h.below hbr).cl hlt
      go_wp2
      go_loopw [4, 5] (fun l j wq => ∃ m j' : Nat, m ≤ k ∧ l = .int .i64 m ∧ j' ≤ k ∧ j = .int .i64 ((j' : Int) - 1) ∧ Hid (M.Lst zs k j' m) ∧ Below w.heap.size w wq) (fun _ j _ => (intOf j + 1).toNat)
      case atStart => exact ⟨k, k, Nat.le_refl _, rfl, Nat.le_refl _, rfl, M.Lst.start _ _, hbr⟩
      case round =>
        obtain ⟨m, j', hm, rfl, hj, rfl, hl, hbq⟩ := hrel
        clear hc hb
        obtain ⟨z2, hb, hc, hz2⟩ := (h.below hbq).cl hlt
        have e2 := hz2.out.symm.trans hz.out
        rw [e2] at hc
        clear hz2 e2
        rcases Nat.eq_zero_or_pos j' with h0 | h0
        · subst h0
          have hl := Lib.hid (hl.out.fin hlt)
          have hml : m ≤ zs.length := by omega
          clear hc hb
          go_wp2
          go_loopw [6, 7] (fun u v wq => ∃ n t : Nat, u = .int .i64 n ∧ v = .int .i64 t ∧ t ≤ m ∧ n ≤ t ∧ Hid (M.cnt (zs.take t) = n) ∧ Below w.heap.size w wq) (fun _ v _ => m - (intOf v).toNat)
          case atStart => exact ⟨0, 0, rfl, rfl, Nat.zero_le _, Nat.le_refl _, by simp [Hid, M.cnt_nil], hbq⟩
          case round =>
            obtain ⟨n, t, rfl, rfl, ht, hnt, hcn, hbs⟩ := hrel
            clear hbq
            by_cases htm : t < m
            · have htl : t < zs.length := by omega
              go_wp2
              go_loopw [8, 9] (fun u v wq => ∃ (f : Int) (s : Nat), u = .int .i64 f ∧ v = .int .i64 s ∧ s ≤ t ∧ 0 ≤ f ∧ f ≤ 1 ∧ Hid (M.fst zs t s = f) ∧ Below w.heap.size w wq) (fun _ v _ => t - (intOf v).toNat)
              case atStart => exact ⟨1, 0, rfl, rfl, Nat.zero_le _, by omega, by omega, M.fst_zero _ _, hbs⟩
              case round =>
                obtain ⟨f, s, rfl, rfl, hs, hf0, hf1, hf, hbt⟩ := hrel
                clear hbs
                by_cases hst : s < t
                · obtain ⟨x, hb, hc, hx⟩ := (h.below hbt).cl (k := s) (by omega)
                  obtain ⟨y, _, hc2, hy⟩ := (h.below hbt).cl htl
                  by_cases hxy : x = y
                  · subst hxy
                    have hf' : Hid (M.fst zs t (s + 1) = 0) := M.fst_hit (by omega) (by rw [hx.out, hy.out])
                    have hsl : s < zs.length := by omega
                    go_wp2
                    go_quiet (fail)
                    go_wp2
                    go_roundw
                    case rel => exact ⟨0, s + 1, rfl, by go_num, by omega, by omega, by omega, hf', below_drewN' hbt _⟩
                    case measure => simp [intOf] <;> omega
                  · have hf' : Hid (M.fst zs t (s + 1) = f) := (M.fst_miss (by omega) (by rw [hx.out, hy.out]; exact hxy)).trans hf.out
                    have hsl : s < zs.length := by omega
                    go_wp2
                    go_quiet (fail)
                    go_wp2
                    go_roundw
                    case rel => exact ⟨f, s + 1, rfl, by go_num, by omega, hf0, hf1, hf', below_drewN' hbt _⟩
                    case measure => simp [intOf] <;> omega
                · have : s = t := by omega
                  subst this
                  have hcn' := M.fst_cnt htl
                  rw [hf.out, hcn.out] at hcn'
                  obtain ⟨n', hn'⟩ : ∃ n' : Nat, (n : Int) + f = n' := ⟨((n : Int) + f).toNat, by omega⟩
                  have hcn2 : Hid (M.cnt (zs.take (s + 1)) = n') := by rw [Hid]; omega
                  clear hf hcn hcn'
                  go_wp2
                  go_roundw
                  case rel => exact ⟨n', s + 1, by rw [← hn'], by go_num, by omega, by omega, hcn2, hbt⟩
                  case measure => simp [intOf] <;> omega
            · have : t = m := by omega
              subst this
              obtain ⟨z2, hb, hc, hz2⟩ := (h.below hbs).cl hlt
              have e2 := hz2.out.symm.trans hz.out
              rw [e2] at hc
              clear hz2 e2
              by_cases he : z = n
              · subst he
                have hok : Hid (Okp zs (k + 1)) := hn.out.step (by rw [← hl.out, hcn.out, hz.out])
                clear hz hl hcn
                go_wp2
                go_roundw
                case rel => exact ⟨k + 1, by omega, by go_num, hok, hbs⟩
                case measure => simp [intOf] <;> omega
              · have hf : Hid (M.pck zs = 1) := M.pck_arg (by omega) (M.vd_not (i := k) (by rw [← hl.out, hcn.out, hz.out]; exact he))
                have hne : (z != (n : Int)) = true := by simpa using he
                clear hz hl hcn
                go_wp2
                go_ret
                exact ⟨ret_int hf.out.symm, hbs⟩
        · obtain ⟨j, rfl⟩ : ∃ j, j' = j + 1 := ⟨j' - 1, by omega⟩
          have e1 : ((j + 1 : Nat) : Int) - 1 = j := by omega
          rw [e1]
          obtain ⟨x, _, hc2, hx⟩ := (h.below hbq).cl (k := j) (by omega)
          have hjl : j < zs.length := by omega
          by_cases hxy : x = z
          · subst hxy
            have hl' : Hid (M.Lst zs k j j) := M.Lst.hit (by omega) (by rw [hx.out, hz.out])
            clear hl
            go_wp2
            go_quiet (fail)
            go_wp2
            go_roundw
            case rel => exact ⟨j, j, by omega, rfl, by omega, (by first | rfl | go_num), hl', below_drewN' hbq _⟩
            case measure => simp [intOf] <;> omega
          · have hl' : Hid (M.Lst zs k j m) := hl.out.miss (by rw [hx.out, hz.out]; exact hxy)
            clear hl
            go_wp2
            go_quiet (fail)
            go_wp2
            go_roundw
            case rel => exact ⟨m, j, hm, rfl, by omega, (by first | rfl | go_num), hl', below_drewN' hbq _⟩
            case measure => simp [intOf] <;> omega
    · have hf : Hid (M.pck zs = 0) := M.pck_ok (by omega) (M.vd_all fun i hi => hn.out i (by omega))
      go_wp2
      go_ret
      exact ⟨ret_int hf.out.symm, hbr⟩

theorem rcheck_any (A : Option Addr) (c : Nat) (zs : List Int) (w : World) (h : Rd w A zs) :
    Calls Tryd.prog 10 #[.slice A zs.length c] w fun e w' => e = .returned (.int .i64 (M.pck zs)) ∧ Below w.heap.size w w' := by
  by_cases h1 : 256 < zs.length
  · have hf : Hid (M.pck zs = 3) := M.pck_limit h1
    go_enter Tryd.func10, Tryd.ntmps10
    go_wp2
    go_ret
    exact ⟨ret_int hf.out.symm, Below.refl _ _⟩
  · rcases Nat.eq_zero_or_pos zs.length with h0 | h0
    · have : zs = [] := List.eq_nil_of_length_eq_zero h0
      subst this
      have hf : Hid (M.pck [] = 0) := rfl
      go_enter Tryd.func10, Tryd.ntmps10
      go_wp2
      refine wp_loop_rounds 1 ?_
      rw [rounds_succ]
      go_wp2
      go_ret
      exact ⟨ret_int hf.out.symm, Below.refl _ _⟩
    · obtain ⟨b, off, rfl⟩ := h.opn h0
      exact rcheck_in b off c zs w h (by omega)

theorem own_form {w : World} {base k : Nat} {v : Value} {xs : List Int} (h : w.ownsRow base 3 1 v k (ints xs)) : ∃ A c, v = .slice A k c ∧ Rd w A xs ∧ k ≤ c := by
  rcases h.2 with ⟨rfl, h0⟩ | ⟨g, cap, cur, rfl, _, _, hc, _⟩
  · refine ⟨none, 0, by rw [h0], fun hp => ?_, by omega⟩
    have := h.1; rw [ints_len] at this; omega
  · exact ⟨_, _, rfl, Rd.of_own h, hc⟩

set_option maxRecDepth 100000 in
set_option maxHeartbeats 1000000 in
theorem rof_any (A : Option Addr) (c : Nat) (zs : List Int) (w : World) (h : Rd w A zs) (h1 : zs.length ≤ 300) :
    Calls Tryd.prog 21 #[.slice A zs.length c] w (Built w (M.ofL zs)) := by
  obtain ⟨i0, hi0, hz0, hz1, hz2⟩ := info_parts int_info
  go_enter Tryd.func21, Tryd.ntmps21
  go_wp2
  go_loopw [3, 4, 5] (fun v n i wr => ∃ (k m : Nat) (xs : List Int) (A2 : Option Addr) (c2 : Nat), k ≤ zs.length ∧ i = .int .i64 k ∧ n = .int .i64 m ∧ m ≤ k ∧ v = .slice A2 k c2 ∧ wr.ownsRow w.heap.size 3 1 (.slice A2 k c2) k (ints xs) ∧ Hid (xs = M.ofL (zs.take k)) ∧ Hid (M.cnt (zs.take k) = m) ∧ Below w.heap.size w wr) (fun _ _ i _ => zs.length - (intOf i).toNat)
  case atStart => exact ⟨0, 0, [], none, 0, Nat.zero_le _, rfl, rfl, Nat.le_refl _, rfl, World.ownsRow_nil w _ _ _, rfl, by simp [Hid, M.cnt_nil], Below.refl _ _⟩
  case round =>
    obtain ⟨k, m, xs, A2, c2, hk, rfl, rfl, hmk, rfl, hown, hxs, hm, hbr⟩ := hrel
    by_cases hlt : k < zs.length
    · obtain ⟨b, off, rfl⟩ := h.opn (by omega)
      go_wp2
      go_loopw [6, 7] (fun u v wq => ∃ (d : Int) (s : Nat), u = .int .i64 d ∧ v = .int .i64 s ∧ s ≤ k ∧ Hid (M.bk zs k s = d) ∧ (∃ dr, wq = wr.drewN dr)) (fun _ v _ => k - (intOf v).toNat)
      case atStart => exact ⟨-1, 0, rfl, rfl, Nat.zero_le _, M.bk_zero _ _, 0, rfl⟩
      case round =>
        obtain ⟨d, s, rfl, rfl, hs, hd, dr, rfl⟩ := hrel
        by_cases hsk : s < k
        · obtain ⟨z, hb, hc, hz⟩ := (h.below hbr).cl hlt
          obtain ⟨x, _, hc2, hx⟩ := (h.below hbr).cl (k := s) (by omega)
          have hsl : s < zs.length := by omega
          by_cases hxz : x = z
          · subst hxz
            have hd' := M.bk_hit hsk hlt (hx.out.trans hz.out.symm)
            rw [← hxs.out] at hd'
            have hxl : xs.length = k := by rw [hxs.out, M.ofL_len, List.length_take]; omega
            have hrx : Rd wr A2 xs := Rd.of_own hown
            obtain ⟨b2, off2, rfl⟩ := hrx.opn (by omega)
            obtain ⟨y, _, hc3, hy⟩ := hrx.cl (k := s) (by omega)
            rw [hy.out] at hd'
            have hd' := Lib.hid hd'
            clear hd
            go_wp2
            go_quiet (fail)
            go_wp2
            go_roundw
            case rel => exact ⟨y, s + 1, rfl, by go_num, by omega, hd', by first | exact ⟨_, rfl⟩ | exact ⟨_, World.drewN_drewN _ _ _⟩⟩
            case measure => simp [intOf] <;> omega
          · have hd' : Hid (M.bk zs k (s + 1) = d) := (M.bk_miss hsk hlt (by rw [hx.out, hz.out]; exact hxz)).trans hd.out
            clear hd
            go_wp2
            go_quiet (fail)
            go_wp2
            go_roundw
            case rel => exact ⟨d, s + 1, rfl, by go_num, by omega, hd', by first | exact ⟨_, rfl⟩ | exact ⟨_, World.drewN_drewN _ _ _⟩⟩
            case measure => simp [intOf] <;> omega
        · have : s = k := by omega
          subst this
          have hdr := M.bk_range zs s s
          rw [hd.out] at hdr
          by_cases hneg : d < 0
          · obtain ⟨e1, e2⟩ := M.bk_new hlt (by rw [hd.out]; exact hneg)
            rw [← hxs.out, hm.out] at e1
            rw [hm.out] at e2
            have E1 := Lib.hid e1
            have E2 := Lib.hid e2
            have hbr' := below_drewN' hbr dr
            have hsz : w.heap.size ≤ (wr.drewN dr).heap.size := hbr'.size
            have hown' : (wr.drewN dr).ownsRow w.heap.size 3 1 (.slice A2 s c2) s (ints xs) := hown
            clear e1 e2 hd hdr hxs hm hown hbr
            go_wp2_with (at_builtin; refine wpList_append_own _ rfl _ _ 22 rfl w.heap.size 3 i0 (.int .i64 0) 1 8 Tryd.underlying22 hi0 hz0 hz1 hz2 rfl (by decide) _ _ _ rfl (hown'.alloc _) ⟨(wr.drewN dr).heap.size, 0, none⟩ 1 1 [.int .i64 m] rfl rfl ?c1 ?c2 ?c3 ?c4 ?c5 ?_)
            case c1 => first | exact (cell_one_new _ _ _) | (intro j u hj; have := cell_one_new (wr.drewN dr) _ 3 j u hj; simpa [Addr.add_lit] using this)
            case c2 => first | rfl | (intro u hu; simp at hu; subst hu; rfl)
            case c3 => unfold maxLen; omega
            case c4 => omega
            case c5 => simp at hsz ⊢; omega
            intro v1 w1 hown1 hg1 _
            obtain ⟨hown2, hbr2⟩ := own_step hbr' hsz hown' hown1 hg1
            obtain ⟨A3, c3, rfl, _, _⟩ := own_form hown2
            clear hown1 hg1 hown'
            go_wp2
            go_roundw
            case rel => exact ⟨s + 1, m + 1, _, A3, c3, by omega, by go_num, by go_num, by omega, rfl, hown2, E1.out.symm, E2, hbr2⟩
            case measure => simp [intOf] <;> omega
          · obtain ⟨e1, e2⟩ := M.bk_old hlt (by rw [hd.out]; exact hneg)
            rw [← hxs.out, hd.out] at e1
            rw [hm.out] at e2
            have E1 := Lib.hid e1
            have E2 := Lib.hid e2
            have hbr' := below_drewN' hbr dr
            have hsz : w.heap.size ≤ (wr.drewN dr).heap.size := hbr'.size
            have hown' : (wr.drewN dr).ownsRow w.heap.size 3 1 (.slice A2 s c2) s (ints xs) := hown
            clear e1 e2 hd hdr hxs hm hown hbr
            go_wp2_with (at_builtin; refine wpList_append_own _ rfl _ _ 22 rfl w.heap.size 3 i0 (.int .i64 0) 1 8 Tryd.underlying22 hi0 hz0 hz1 hz2 rfl (by decide) _ _ _ rfl (hown'.alloc _) ⟨(wr.drewN dr).heap.size, 0, none⟩ 1 1 [.int .i64 d] rfl rfl ?c1 ?c2 ?c3 ?c4 ?c5 ?_)
            case c1 => first | exact (cell_one_new _ _ _) | (intro j u hj; have := cell_one_new (wr.drewN dr) _ 3 j u hj; simpa [Addr.add_lit] using this)
            case c2 => first | rfl | (intro u hu; simp at hu; subst hu; rfl)
            case c3 => unfold maxLen; omega
            case c4 => omega
            case c5 => simp at hsz ⊢; omega
            intro v1 w1 hown1 hg1 _
            obtain ⟨hown2, hbr2⟩ := own_step hbr' hsz hown' hown1 hg1
            obtain ⟨A3, c3, rfl, _, _⟩ := own_form hown2
            clear hown1 hg1 hown'
            go_wp2
            go_roundw
            case rel => exact ⟨s + 1, m, _, A3, c3, by omega, by go_num, rfl, by omega, rfl, hown2, E1.out.symm, E2, hbr2⟩
            case measure => simp [intOf] <;> omega
    · have hk2 : zs.take k = zs := List.take_of_length_le (by omega)
      rw [hk2] at hxs
      go_wp2
      go_ret
      rw [← hxs.out]
      exact Built.of_own hown hbr
end Go.Proofs.YtnhibkkkpmaddaaDoor
