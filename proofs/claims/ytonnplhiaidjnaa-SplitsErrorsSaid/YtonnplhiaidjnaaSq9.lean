/-
  Contracts of splits: After. No statement is proved here.
-/
import Derived.Test.YtonnplhiaidjnaaSq7
import Derived.Test.YtonnplhiaidjnaaSkC
namespace Go.Proofs.Ytonnplhiaidjnaa
open Go.RowKit
open Mc (Ed Ma)

namespace Mc
/-- Where a list stands first. -/
def fi : List (List Int) → List Int → Nat
  | [], _ => 0
  | r :: l, x => if r = x then 0 else fi l x + 1
theorem fi_of : ∀ {rows : List (List Int)} {x : List Int} {j : Nat}, rows[j]? = some x → (∀ i, i < j → rows[i]? ≠ some x) → fi rows x = j
  | [], _, _, h, _ => by simp at h
  | r :: l, x, 0, h, _ => by simp at h; unfold fi; rw [if_pos h]
  | r :: l, x, j + 1, h, hn => by
    have h0 := hn 0 (by omega)
    simp at h0
    unfold fi
    rw [if_neg h0, fi_of (j := j) (by simpa using h) (fun i hi => by have := hn (i + 1) (by omega); simpa using this)]
theorem fi_at : ∀ {rows : List (List Int)} {x : List Int} {s : Nat}, rows[s]? = some x → rows[fi rows x]? = some x ∧ fi rows x ≤ s
  | [], _, _, h => by simp at h
  | r :: l, x, 0, h => by simp at h; unfold fi; rw [if_pos h]; simp [h]
  | r :: l, x, s + 1, h => by
    unfold fi
    by_cases e : r = x
    · rw [if_pos e]; simp [e]
    · rw [if_neg e]
      obtain ⟨h1, h2⟩ := fi_at (rows := l) (s := s) (by simpa using h)
      exact ⟨by simpa using h1, by omega⟩
/-- The responses of all states to a word. -/
def rsps (m : Ma) (ws : List Int) : List (List Int) := (List.range m.r.length).map fun (s : Nat) => run m s ws
theorem rsps_len (m : Ma) (ws : List Int) : (rsps m ws).length = m.r.length := by simp [rsps]
theorem rsps_at {m : Ma} (ws : List Int) {s : Nat} (h : s < m.r.length) : (rsps m ws)[s]? = some (run m s ws) := by simp [rsps, h]
/-- For each state the first one with its response. -/
def stn (m : Ma) (ws : List Int) : List Int := (List.range m.r.length).map fun (s : Nat) => ((fi (rsps m ws) (run m s ws) : Nat) : Int)
theorem stn_len (m : Ma) (ws : List Int) : (stn m ws).length = m.r.length := by simp [stn]
theorem stn_at {m : Ma} (ws : List Int) {s : Nat} (h : s < m.r.length) : (stn m ws)[s]? = some ((fi (rsps m ws) (run m s ws) : Nat) : Int) := by simp [stn, h]
theorem stn_gz {m : Ma} (ws : List Int) {s : Nat} (h : s < m.r.length) : M.gz (stn m ws) s = ((fi (rsps m ws) (run m s ws) : Nat) : Int) := by unfold M.gz; rw [stn_at ws h]; rfl
theorem stn_iff {m : Ma} (ws : List Int) {s t : Nat} (hs : s < m.r.length) (ht : t < m.r.length) : M.gz (stn m ws) s = M.gz (stn m ws) t ↔ run m s ws = run m t ws := by
  rw [stn_gz ws hs, stn_gz ws ht]
  constructor
  · intro h
    have e : fi (rsps m ws) (run m s ws) = fi (rsps m ws) (run m t ws) := by omega
    have h1 := (fi_at (rsps_at ws hs)).1
    have h2 := (fi_at (rsps_at ws ht)).1
    rw [e, h2] at h1
    injection h1 with h1
    exact h1.symm
  · intro h; rw [h]
theorem stn_lt {m : Ma} (ws : List Int) : ∀ z ∈ stn m ws, 0 ≤ z ∧ z < m.r.length := fun z hz => by
  unfold stn at hz
  obtain ⟨s, hs, rfl⟩ := List.mem_map.1 hz
  have hs := List.mem_range.1 hs
  have := (fi_at (rsps_at ws hs)).2
  exact ⟨by omega, by omega⟩
end Mc

/-- The closure: a list is held against the one in the box. -/
theorem after1_any (P Q : Option Addr) (b n c d : Nat) (xs ys : List Int) (r : Bool) (w : World) (h1 : Rd w P xs) (h2 : Rd w Q ys) (hbx : w.cell? ⟨b, 0, none⟩ = some (.slice Q n d)) (hx : xs.length = n) (hy : ys.length = n) (hn : n ≤ 1000000) (hb : M.same xs ys = r) :
    Calls Try.prog 71 #[.slice P n c, .pointer (some ⟨b, 0, none⟩)] w fun e w' => e = .returned (.bool r) ∧ Below w.heap.size w w' := by
  have C := equal2_any P Q n c d xs ys r w h1 h2 hx hy hn hb
  clear h1 h2 hx hy hb
  go_enter Try.func71, Try.ntmps71
  go_wp2_with fail
  refine C.mono ?_
  rintro e w1 ⟨rfl, hb1⟩
  go_wp2_with fail
  go_ret
  exact ⟨rfl, hb1⟩
set_option maxRecDepth 100000 in
theorem indexFunc_any (g k b n d : Nat) (rows : List (List Int)) (Q : Option Addr) (x : List Int) (s : Nat) (w : World) (hR : Rsp w g k rows) (hk : rows.length = k) (hk64 : k ≤ 64) (hl : ∀ r ∈ rows, r.length = n) (hQ : Rd w Q x) (hbx : w.cell? ⟨b, 0, none⟩ = some (.slice Q n d)) (hbl : b < w.heap.size) (hx : x.length = n) (hn : n ≤ 1000000) (hs : rows[s]? = some x) :
    Calls Try.prog 70 #[.slice (some ⟨g, 0, none⟩) k k, .func (.func 71) #[] #[.pointer (some ⟨b, 0, none⟩)]] w fun e w' => e = .returned (.int .i64 (Mc.fi rows x : Nat)) ∧ Below w.heap.size w w' := by
  have HR := Lib.hid hR
  have HK := Lib.hid hk
  have HL := Lib.hid hl
  have HQ := Lib.hid hQ
  have HX := Lib.hid hx
  have HS := Lib.hid hs
  have hsk : s < k := by rw [← hk]; exact (List.getElem?_eq_some_iff.1 hs).1
  have CA := fun w' P c xs r h1 h2 h3 h4 h5 => after1_any P Q b n c d xs x r w' h1 h2 h3 h4 hx hn h5
  have hz : Hid (Below w.heap.size w w) := Below.refl _ _
  obtain ⟨F, hF⟩ : ∃ F, Mc.fi rows x = F := ⟨_, rfl⟩
  have HF := Lib.hid hF
  rw [hF]
  clear hR hk hl hQ hx hs hF
  go_enter Try.func70, Try.ntmps70
  go_wp2_with fail
  go_loopw [8] (fun v wr => ∃ j : Nat, j ≤ s ∧ v = .int .i64 j ∧ Hid (∀ i, i < j → rows[i]? ≠ some x) ∧ Hid (Below w.heap.size w wr)) (fun v _ => k - (intOf v).toNat)
  case atStart => exact ⟨0, Nat.zero_le _, rfl, fun i h => absurd h (by omega), hz⟩
  case round =>
    clear hz
    obtain ⟨j, hj, rfl, hno, hbr⟩ := hrel
    have hjk : (j : Int) < k := by omega
    have hjl : j < rows.length := by rw [HK.out]; omega
    have hat := List.getElem?_eq_getElem hjl
    obtain ⟨y, hy⟩ : ∃ y, rows[j] = y := ⟨_, rfl⟩
    rw [hy] at hat
    obtain ⟨P, c, hc, hr⟩ := (HR.out.below hbr.out).at_ hat
    have hyl := HL.out y (List.mem_of_getElem? hat)
    rw [hyl] at hc
    have hb2 := (hbr.out.cell (p := ⟨b, 0, none⟩) hbl).trans hbx
    have HAT := Lib.hid hat
    cases hb : M.same y x with
    | true =>
      have C1 := CA wr P c y true hr (HQ.out.below hbr.out) hb2 hyl hb
      have hyx := Mc.same_iff'.1 hb
      have hfj : Hid (F = j) := by
        show _ = _
        rw [← HF.out]
        exact Mc.fi_of (by rw [HAT.out, hyx]) hno.out
      clear hy hat hr hyl hb hyx
      go_wp2_with fail
      refine C1.mono ?_
      rintro e w1 ⟨rfl, hb1⟩
      have hbF := Lib.hid (below_next hbr.out hb1)
      go_wp2_with fail
      go_ret
      exact ⟨ret_int (by rw [hfj.out]), hbF.out⟩
    | false =>
      have C1 := CA wr P c y false hr (HQ.out.below hbr.out) hb2 hyl hb
      have hyx : y ≠ x := fun e => by rw [e, M.same_yes rfl] at hb; cases hb
      have hjs : j < s := by
        rcases Nat.lt_or_ge j s with h | h
        · exact h
        · have : j = s := by omega
          subst this
          rw [HS.out] at hat
          injection hat with hat
          exact absurd hat.symm hyx
      have hno2 : Hid (∀ i, i < j + 1 → rows[i]? ≠ some x) := fun i hi => by
        by_cases e : i = j
        · subst e; rw [HAT.out]; intro e2; injection e2 with e2; exact hyx e2
        · exact hno.out i (by omega)
      clear hy hat hr hyl hb hyx hno
      go_wp2_with fail
      refine C1.mono ?_
      rintro e w1 ⟨rfl, hb1⟩
      have hbr2 := Lib.hid (below_next hbr.out hb1)
      go_wp2_with fail
      go_roundw
      case rel => exact ⟨j + 1, by omega, by go_num, hno2, hbr2⟩
      case measure => simp [intOf]; omega
end Go.Proofs.Ytonnplhiaidjnaa
