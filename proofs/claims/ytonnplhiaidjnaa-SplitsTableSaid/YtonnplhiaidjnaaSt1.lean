/-
  Contracts of the reference of layer 8: the next word. No statement is proved here.
-/
import Derived.Test.YtonnplhiaidjnaaSwZ
import Derived.Test.YtonnplhiaidjnaaBaZ
import Derived.Deep.CutRange
namespace Go.Proofs.Ytonnplhiaidjnaa
open Go.RowKit

set_option maxRecDepth 100000 in
set_option maxHeartbeats 2000000 in
theorem snext_any (A : Option Addr) (n c : Nat) (zs : List Int) (i : Int) (w : World) (hr : Rd w A zs) (hn : zs.length = n) (hi : 1 ≤ i) (hi2 : i ≤ 100) (hl : n ≤ 65536) (hv : M.Val i zs) :
    Calls Try.prog 67 #[.slice A n c, .int .i64 i] w (Nxt w (M.next i zs)) := by
  obtain ⟨i0, hi0, hz0, hz1, hz2⟩ := info_parts int_info
  obtain ⟨R, hR⟩ : ∃ R, M.next i zs = R := ⟨_, rfl⟩
  have HRE := Lib.hid hR
  rw [hR]
  have HV := Lib.hid hv
  have HN := Lib.hid hn
  clear hR hv
  have hpost : Hid (∀ (V : Value) (w' : World), Hid (w'.ownsRow w.heap.size 3 1 V R.length (ints R)) → Below w.heap.size w w' → Nxt w R (.returned V) w') := fun V w' h1 h2 => ⟨V, rfl, h1, h2⟩
  have hown0 := own_emptyI w w.heap.size (Nat.le_refl _)
  have hbA : Below w.heap.size w (w.alloc (.cells #[] 3)) := (Below.refl _ _).alloc (Nat.le_refl _) _
  go_enter Try.func67, Try.ntmps67
  go_upto_region 1 with fail
  go_cut [5] from 7 to 9 (fun v wx => ∃ g cp, v = .slice (some ⟨g, 0, none⟩) n cp ∧ Hid (wx.ownsRow w.heap.size 3 1 (.slice (some ⟨g, 0, none⟩) n cp) n (ints zs)) ∧ Below w.heap.size w wx)
  case first =>
    rcases Nat.eq_zero_or_pos n with h0 | h0
    · subst h0
      have hzs : zs = [] := List.length_eq_zero_iff.1 HN.out
      subst hzs
      have HO := Lib.hid hown0
      clear hn hown0
      go_wp2_with (at_builtin; refine wpList_append_none _ rfl _ _ 29 rfl 3 i0 hi0 Try.underlying29 ⟨w.heap.size, 0, none⟩ A c rfl rfl ?_)
      go_wp2
      go_meet
      exact ⟨_, 0, rfl, HO.out, hbA⟩
    · obtain ⟨b, off, rfl, hb, hc⟩ := hr (by rw [HN.out]; exact h0)
      have hnews : Hid (∀ j u, (ints zs)[j]? = some u → (w.alloc (.cells #[] 3)).cell? ((⟨b, off, none⟩ : Addr).add j) = some u) := fun j u hj => by
        have hjl : j < zs.length := by have := (List.getElem?_eq_some_iff.1 hj).1; rwa [ints_len] at this
        rw [ints_at hjl] at hj
        injection hj with hj
        subst hj
        rw [Addr.add_lit, World.cell?_alloc_past _ _ _ (by show b < _; exact hb)]
        exact hc j hjl
      have h1c : Hid (∀ u ∈ ints zs, u.oneCell' = true) := fun u hu => by
        obtain ⟨z, _, rfl⟩ := List.mem_map.1 hu
        rfl
      have hil : Hid ((ints zs).length = n * 1) := by show _ = _; rw [ints_len, HN.out, Nat.mul_one]
      have h3 : 0 + n ≤ maxLen := by unfold maxLen; omega
      have h4 : (0 + n) * 8 ≤ 140737488355328 := by omega
      have h5 : w.heap.size ≤ (w.alloc (.cells #[] 3)).heap.size := by simp
      have HO := Lib.hid hown0
      clear hn hown0 hc
      go_wp2_with (at_builtin; refine wpList_append_own _ rfl _ _ 29 rfl w.heap.size 3 i0 (.int .i64 0) 1 8 Try.underlying29 hi0 hz0 hz1 hz2 rfl (by decide) _ _ _ rfl HO.out ⟨b, off, none⟩ n c (ints zs) rfl hil.out hnews.out h1c.out h3 h4 h5 ?_)
      intro v1 w1 hown1 hg1 _
      obtain ⟨g, cp, rfl⟩ : ∃ g cp, v1 = .slice (some ⟨g, 0, none⟩) n cp := by
        rcases hown1.2 with ⟨_, e0⟩ | ⟨g, cp, cur, e, _⟩
        · omega
        · exact ⟨g, cp, e⟩
      have hown2 : Hid (w1.ownsRow w.heap.size 3 1 (.slice (some ⟨g, 0, none⟩) n cp) n (ints zs)) := by
        exact hown1
      have hbx := hbA.grown hg1 h5 (fun j hj => (HO.out.lt j hj).1)
      clear hown1 hg1
      go_wp2
      go_meet
      exact ⟨g, cp, rfl, hown2, hbx⟩
  case rest =>
    obtain ⟨g, cp, rfl, HO, hbx⟩ := hcut
    clear hown0 hbA hr hn
    go_wp2
    go_loopw [6] (fun x wr => ∃ (k : Nat) (cur : List Int), k ≤ n ∧ x = .int .i64 ((n : Int) - 1 - k) ∧ Hid (wr.ownsRow w.heap.size 3 1 (.slice (some ⟨g, 0, none⟩) n cp) n (ints cur)) ∧ Hid (M.Fol i zs k cur) ∧ Below w.heap.size w wr) (fun x _ => ((intOf x) + 1).toNat)
    case atStart => exact ⟨0, zs, Nat.zero_le _, by go_num, HO, M.Fol.start i zs, hbx⟩
    case round =>
      obtain ⟨k, cur, hk, rfl, HO2, HF, hbr⟩ := hrel
      clear HO hbx
      by_cases hlt : k < n
      · obtain ⟨j, hj⟩ : ∃ j : Nat, n = k + 1 + j := ⟨n - (k + 1), by omega⟩
        have hji : (n : Int) - 1 - k = (j : Int) := by omega
        have hjn : j < n := by omega
        have HJ := Lib.hid hj
        rw [hji]
        have hlz : k < zs.length := by rw [HN.out]; exact hlt
        have hjj : zs.length - 1 - k = j := by rw [HN.out]; omega
        obtain ⟨z, hc, hf, hbg, hz⟩ := own_cellI HO2.out (k := j) (by omega)
        have hz' : cur[zs.length - 1 - k]?.getD 0 = z := by rw [hjj]; exact hz.out
        obtain ⟨hv1, hv2⟩ := HF.out.val hlz hz' HV.out
        have hwg : w.heap.size ≤ (⟨g, j, none⟩ : Addr).block := hbg
        by_cases hup : z < i - 1
        · have HU : Hid (R = cur.set j (z + 1)) := by
            have := HRE.out.symm.trans (HF.out.up hlz hz' hup)
            rwa [hjj] at this
          have HL : Hid (R.length = n) := by
            show _ = _
            rw [HU.out, List.length_set, HF.out.len (Nat.le_of_lt hlz), HN.out]
          have HS := Lib.hid (own_setI (k := j) HO2.out (z + 1))
          have hbr' := hbr.setCell hwg (.int .i64 (z + 1))
          have HP := Lib.hid (hpost.out (.slice (some ⟨g, 0, none⟩) n cp) _ (by show World.ownsRow _ _ _ _ _ _ _; rw [HL.out, HU.out]; exact HS.out) hbr')
          clear hz' hjj hlz hji hj
          go_wp2
          go_ret
          exact HP.out
        · have HU : Hid (M.Fol i zs (k + 1) (cur.set j 0)) := by
            have := HF.out.over hlz hz' hup
            rwa [hjj] at this
          have HS := Lib.hid (own_setI (k := j) HO2.out 0)
          have hbr' := hbr.setCell hwg (.int .i64 0)
          clear hz' hjj hlz hji hj
          go_wp2
          have hj := HJ.out
          go_roundw
          case rel => exact ⟨k + 1, _, by omega, by go_num, HS.out, HU, hbr'⟩
          case measure => simp [intOf] <;> omega
      · obtain rfl : k = n := by omega
        have hm1 : (k : Int) - 1 - k = -1 := by omega
        rw [hm1]
        have hsz := hbr.size
        have HL : Hid (R = cur ++ [0]) := by
          have h1 : M.Fol i zs zs.length cur := by rw [HN.out]; exact HF.out
          have h2 := h1.1
          show _ = _
          rw [← HRE.out, h1.done, h2]
          simp [List.replicate_succ']
        have HL2 : Hid (R.length = k + 1) := by
          show _ = _
          rw [HL.out, List.length_append, HF.out.len (by rw [HN.out]; exact Nat.le_refl _), HN.out]
          rfl
        go_wp2_with (at_builtin; refine wpList_append_own _ rfl _ _ 29 rfl w.heap.size 3 i0 (.int .i64 0) 1 8 Try.underlying29 hi0 hz0 hz1 hz2 rfl (by decide) _ _ _ rfl (HO2.out.alloc _) ⟨wr.heap.size, 0, none⟩ 1 1 [.int .i64 0] rfl rfl ?c1 ?c2 ?c3 ?c4 ?c5 ?_)
        case c1 => exact (cell_one_new _ _ _)
        case c2 => intro u hu; simp at hu; subst hu; rfl
        case c3 => unfold maxLen; omega
        case c4 => omega
        case c5 => simp; omega
        intro v1 w1 hown1 hg1 _
        obtain ⟨hown2, hbr2⟩ := own_step hbr hsz HO2.out hown1 hg1
        have HP := Lib.hid (hpost.out v1 w1 (by show World.ownsRow _ _ _ _ _ _ _; rw [HL2.out, HL.out]; exact hown2) hbr2)
        clear hown1 hg1 hown2
        go_wp2
        go_ret
        exact HP.out
end Go.Proofs.Ytonnplhiaidjnaa
