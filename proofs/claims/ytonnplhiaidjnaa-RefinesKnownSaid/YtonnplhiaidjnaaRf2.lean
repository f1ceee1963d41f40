/-
  Contracts of the reference of layer 7: Partition. No statement is proved here.
-/
import Derived.Test.YtonnplhiaidjnaaRf1
namespace Go.Proofs.Ytonnplhiaidjnaa
open Go.RowKit
open Mc (Ed Ma)

theorem own_len' {w : World} {base n sz : Nat} {t : TypeId} {v : Value} {xs : List Value} (h : w.ownsRow base t sz v n xs) : ∃ A c, v = .slice A n c ∧ n ≤ c := by
  rcases h.2 with ⟨rfl, h0⟩ | ⟨g, cap, cur, rfl, _, _, hc, _⟩
  · exact ⟨none, 0, by rw [h0], by omega⟩
  · exact ⟨_, _, rfl, hc⟩
set_option maxRecDepth 100000 in
set_option maxHeartbeats 4000000 in
theorem partition_any (X : Option Addr) (n k : Nat) (p : List Int) (w : World) (hx : RdMx w X n (prd p)) (hv : M.Vd p) (hl : p.length = n) (hn : n ≤ 64) :
    Calls Try.prog 51 #[.slice X n k] w fun e w' => ∃ B q, e = .returned (.slice B n q) ∧ Rd w' B p ∧ Below w.heap.size w w' := by
  obtain ⟨i0, hi0, hz0, hz1, hz2⟩ := info_parts int_info
  have HV := Lib.hid hv
  have HL := Lib.hid hl
  have HX := Lib.hid hx
  clear hv hl hx
  have HG : Hid (∀ s, s < n → 0 ≤ M.gz p s ∧ M.gz p s < 64) := fun s hs => by
    have h1 := M.vd_gz HV.out (i := s) (by have := HL.out; omega)
    have h2 := HL.out
    omega
  go_enter Try.func51, Try.ntmps51
  go_wp2
  go_loopw [3, 4, 5] (fun u x y wr => ∃ (s q : Nat), s ≤ n ∧ y = .int .i64 s ∧ x = .int .i64 q ∧ q ≤ s ∧ Hid (q = M.cnt (p.take s)) ∧ Hid (wr.ownsRow w.heap.size 3 1 u s (ints (p.take s))) ∧ Hid (Below w.heap.size w wr)) (fun _ _ y _ => n - (intOf y).toNat)
  case atStart => exact ⟨0, 0, Nat.zero_le _, rfl, rfl, Nat.le_refl _, by show _ = _; simp [M.cnt_nil], World.ownsRow_nil _ _ _ _, Below.refl _ _⟩
  case round =>
    obtain ⟨s, q, hs, rfl, rfl, hqs, hq, hown, hbr⟩ := hrel
    obtain ⟨O, oc, rfl, hoc⟩ := own_len' hown.out
    by_cases hsn : s < n
    · have hsn' : (s : Int) < n := by omega
      have hrO := Rd.of_own hown.out
      have HRO := Lib.hid hrO
      clear hrO
      obtain ⟨xb, xo, rfl, hxb, hxr⟩ := HX.out (by omega)
      obtain ⟨gb, go, gc, k1, k2, k3⟩ := hxr s hsn
      have d1 := (hbr.out.cell (p := ⟨xb, xo + s, none⟩) hxb).trans k1
      have K3 : Hid (∀ t, t < n → wr.cell? ⟨gb, go + t, none⟩ = some (.bool (prd p s t))) := fun t ht => (hbr.out.cell (p := ⟨gb, go + t, none⟩) k2).trans (k3 t ht)
      clear k1 k2 k3 hxr hxb
      obtain ⟨z, hz, hzz⟩ : ∃ z, M.gz p s = z ∧ Hid (0 ≤ z ∧ z < 64) := ⟨_, rfl, HG.out s hsn⟩
      have HZ := Lib.hid hz
      clear hz
      go_wp2_with fail
      go_loopw [6, 7] (fun x y wx => ∃ (b : Int) (t : Nat), t ≤ s ∧ x = .int .i64 b ∧ y = .int .i64 t ∧ wx = wr ∧ Hid ((b = -1 ∧ ∀ j, j < t → M.gz p s ≠ M.gz p j) ∨ (b = z ∧ ∃ j, j < t ∧ M.gz p s = M.gz p j))) (fun _ y _ => s - (intOf y).toNat)
      case atStart => exact ⟨-1, 0, Nat.zero_le _, rfl, rfl, rfl, .inl ⟨rfl, fun j h => absurd h (by omega)⟩⟩
      case round =>
        obtain ⟨b, t, ht, rfl, rfl, rfl, hb⟩ := hrel
        by_cases hts : t < s
        · have hts' : (t : Int) < s := by omega
          have d2 := K3.out t (by omega)
          by_cases he : M.gz p s = M.gz p t
          · have hf : prd p s t = false := by unfold prd; simp [he]
            rw [hf] at d2
            obtain ⟨ob, oo, rfl⟩ := HRO.out.opn (by rw [List.length_take]; have := HL.out; omega)
            obtain ⟨y, hyb, hyc, hy⟩ := HRO.out.cl (k := t) (by rw [List.length_take]; have := HL.out; omega)
            have hyz : Hid (y = z) := by
              show _ = _
              rw [← hy.out, M.gz_take (by omega), ← he, HZ.out]
            have hb2 : Hid ((y = -1 ∧ ∀ j, j < t + 1 → M.gz p s ≠ M.gz p j) ∨ (y = z ∧ ∃ j, j < t + 1 ∧ M.gz p s = M.gz p j)) := .inr ⟨hyz.out, t, by omega, he⟩
            have htn : t < n := by omega
            clear hb hf he
            go_wp2_with fail
            go_roundw
            case rel => exact ⟨y, t + 1, by omega, rfl, by go_num, trivial, hb2⟩
            case measure => simp [intOf]; omega
          · have hf : prd p s t = true := by unfold prd; simp [he]
            rw [hf] at d2
            have hb2 : Hid ((b = -1 ∧ ∀ j, j < t + 1 → M.gz p s ≠ M.gz p j) ∨ (b = z ∧ ∃ j, j < t + 1 ∧ M.gz p s = M.gz p j)) := by
              rcases hb.out with ⟨h1, h2⟩ | ⟨h1, j, h2, h3⟩
              · refine .inl ⟨h1, fun j hj => ?_⟩
                rcases Nat.lt_or_ge j t with h4 | h4
                · exact h2 j h4
                · obtain rfl : j = t := by omega
                  exact he
              · exact .inr ⟨h1, j, by omega, h3⟩
            have htn : t < n := by omega
            clear hb hf he
            go_wp2_with fail
            go_roundw
            case rel => exact ⟨b, t + 1, by omega, rfl, by go_num, trivial, hb2⟩
            case measure => simp [intOf]; omega
        · have hts' : decide ((t : Int) < s) = false := decide_eq_false (by omega)
          obtain rfl : t = s := by omega
          have hsz := hbr.out.size
          have h3 : t + 1 ≤ maxLen := by unfold maxLen; omega
          have h4 : (t + 1) * 8 ≤ 140737488355328 := by omega
          have hownA := Lib.hid (hown.out.alloc (.cells #[.int .i64 z] 3))
          have h1 := Lib.hid (cell_one_new wr (t := 3) (.int .i64 z))
          have h2 : Hid (∀ u ∈ ([.int .i64 z] : List Value), u.oneCell' = true) := fun u hu => by simp at hu; subst hu; rfl
          have h5 : w.heap.size ≤ (wr.alloc (.cells #[.int .i64 z] 3)).heap.size := by simp; omega
          have htk : Hid (p.take (t + 1) = p.take t ++ [z]) := by show _ = _; rw [M.take_gz (by have := HL.out; omega), HZ.out]
          rcases hb.out with ⟨rfl, hnew⟩ | ⟨rfl, j, hj, hold⟩
          · have hzq : Hid (z = (q : Int)) := by
              show _ = _
              rw [← HZ.out, Mc.prt_new HV.out (by have := HL.out; omega) hnew, hq.out]
            have hcn : Hid (q + 1 = M.cnt (p.take (t + 1))) := by show _ = _; rw [Mc.prt_cnt_new (by have := HL.out; omega) hnew, hq.out]
            have hqz := hzq.out
            subst hqz
            clear hb hnew hzq
            go_wp2_with (at_builtin; refine wpList_append_own _ rfl _ _ 29 rfl w.heap.size 3 i0 (.int .i64 0) 1 8 Try.underlying29 hi0 hz0 hz1 hz2 rfl (by decide) _ _ _ rfl hownA.out ⟨wr.heap.size, 0, none⟩ 1 1 [.int .i64 q] rfl rfl h1.out h2.out h3 h4 h5 ?_)
            intro v1 w5 hown1 hg1 _
            have hb5 := Lib.hid ((hbr.out.alloc hsz (.cells #[.int .i64 q] 3)).grown hg1 h5 (fun j hj => (hownA.out.lt j hj).1))
            rw [ints_snoc, ← htk.out] at hown1
            have hown2 := Lib.hid hown1
            clear hown1 hg1 hownA h1 h2 h3 h4 h5 hbr hown
            go_wp2_with fail
            go_roundw
            case rel => exact ⟨t + 1, q + 1, by omega, by go_num, by go_num, by omega, hcn, hown2, hb5⟩
            case measure => simp [intOf]; omega
          · have hcn : Hid (q = M.cnt (p.take (t + 1))) := by show _ = _; rw [Mc.prt_cnt_old (by have := HL.out; omega) hj hold, hq.out]
            have hzn : decide (b < 0) = false := decide_eq_false (by have := hzz.out; omega)
            clear hb hold
            go_wp2_with (at_builtin; refine wpList_append_own _ rfl _ _ 29 rfl w.heap.size 3 i0 (.int .i64 0) 1 8 Try.underlying29 hi0 hz0 hz1 hz2 rfl (by decide) _ _ _ rfl hownA.out ⟨wr.heap.size, 0, none⟩ 1 1 [.int .i64 b] rfl rfl h1.out h2.out h3 h4 h5 ?_)
            intro v1 w5 hown1 hg1 _
            have hb5 := Lib.hid ((hbr.out.alloc hsz (.cells #[.int .i64 b] 3)).grown hg1 h5 (fun j hj => (hownA.out.lt j hj).1))
            rw [ints_snoc, ← htk.out] at hown1
            have hown2 := Lib.hid hown1
            clear hown1 hg1 hownA h1 h2 h3 h4 h5 hbr hown
            go_wp2_with fail
            go_roundw
            case rel => exact ⟨t + 1, q, by omega, by go_num, rfl, by omega, hcn, hown2, hb5⟩
            case measure => simp [intOf]; omega
    · have hsn' : decide ((s : Int) < n) = false := decide_eq_false (by omega)
      obtain rfl : s = n := by omega
      have hrO := Rd.of_own hown.out
      rw [List.take_of_length_le (by have := HL.out; omega)] at hrO
      have HRO := Lib.hid hrO
      clear hrO
      go_wp2_with fail
      go_ret
      exact ⟨O, oc, rfl, HRO.out, hbr.out⟩
end Go.Proofs.Ytonnplhiaidjnaa
