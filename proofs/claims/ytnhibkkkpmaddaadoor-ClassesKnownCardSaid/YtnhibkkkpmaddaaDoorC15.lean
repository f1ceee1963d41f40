/-
  Contracts: classes.blockText, classes.Text.
-/
import Derived.Test.YtnhibkkkpmaddaaDoorC14
import Derived.Test.YtnhibkkkpmaddaaDoorShelf
import Derived.Lib.AppendIntMem
import Derived.Lib.LaidTab
namespace Go.Proofs.YtnhibkkkpmaddaaDoor
open Go.RowKit

/-- What the library's functions ask of the program's own variables. -/
structure Env (w : World) : Prop where
  tab : Lib.TabIs Tryd.prog w "internal/strconv.uint64pow10" .u64 Lib.pow10Tab
  max : ∃ m, w.cell? ⟨0, 0, none⟩ = some (.int .i64 m)
  size : 0 < w.heap.size
  syn : ∃ ev, w.cell? ⟨1, 0, none⟩ = some ev ∧ (ev = .nilIface ∨ ∃ t p, ev = .iface t p)
  rng : ∃ ev, w.cell? ⟨2, 0, none⟩ = some ev ∧ (ev = .nilIface ∨ ∃ t p, ev = .iface t p)
theorem gTab : Tryd.prog.globalNamed "internal/strconv.uint64pow10" = some 3 := by kernel_rfl
theorem lt_of_cell' {w : World} {b o : Nat} {v : Value} (h : w.cell? ⟨b, o, none⟩ = some v) : b < w.heap.size := by
  rcases Nat.lt_or_ge b w.heap.size with h1 | h1
  · exact h1
  · simp [World.cell?, Array.getElem?_eq_none h1] at h
theorem Env.below {w w' : World} (h : Env w) (hb : Below w.heap.size w w') : Env w' := by
  obtain ⟨m, hm⟩ := h.max
  obtain ⟨v1, h1, q1⟩ := h.syn
  obtain ⟨v2, h2, q2⟩ := h.rng
  have hs := h.size
  have hs2 := hb.size
  exact ⟨Joins.tab_stays gTab h.tab hb (Nat.le_refl _), ⟨m, (hb.cell (p := ⟨0, 0, none⟩) hs).trans hm⟩, by omega, ⟨v1, (hb.cell (p := ⟨1, 0, none⟩) (lt_of_cell' h1)).trans h1, q1⟩, ⟨v2, (hb.cell (p := ⟨2, 0, none⟩) (lt_of_cell' h2)).trans h2, q2⟩⟩

theorem itoa_any (z : Int) (w : World) (he : Env w) (h1 : -9223372036854775808 ≤ z) (h2 : z ≤ 9223372036854775807) :
    Calls Tryd.prog 42 #[.int .i64 z] w fun e w' => e = .returned (.string ⟨(Lib.itoa z).toArray⟩) ∧ Below w.heap.size w w' :=
  (Tryd.strconv_Itoa z h1 h2 w he.tab).mono fun _ _ ⟨he, k, os, hw⟩ => ⟨he, by rw [hw]; exact Lib.below_grow _ _ (Nat.le_refl _) k os⟩

theorem bjoin_at (g n : Nat) (xs : List (List UInt8)) (sep : ByteArray) (ss : List ByteArray) (w : World) (hB : BlkS w g ss) (hs : ss.map (·.data.toList) = xs) (hn : xs.length = n) (hl : (Lib.join xs sep.data.toList).length ≤ 1000000000) (hn2 : n ≤ 1000000) :
    Calls Tryd.prog 34 #[.slice (some ⟨g, 0, none⟩) n n, .string sep] w fun e w' => e = .returned (.string ⟨(Lib.join xs sep.data.toList).toArray⟩) ∧ Below w.heap.size w w' := by
  have e1 : ss.length = n := by rw [← hn, ← hs, List.length_map]
  subst e1
  have := Tryd.strings_Join g 0 ss.length ss sep w hB.cell hB.lt (by omega) (Nat.le_refl _) (by rw [hs]; omega)
  rwa [hs] at this

/-- The state of a loop that fills a list of texts. -/
def Tl (n : Nat) (f : Nat → ByteArray) (k : Nat) (ss : List ByteArray) : Prop := ss.length = n ∧ ∀ j, j < k → ss[j]? = some (f j)
theorem Tl.start (n : Nat) (f : Nat → ByteArray) (v : ByteArray) : Tl n f 0 (List.replicate n v) := ⟨by simp, fun j h => absurd h (by omega)⟩
theorem Tl.step {n k : Nat} {f : Nat → ByteArray} {ss : List ByteArray} (h : Tl n f k ss) (hk : k < n) : Tl n f (k + 1) (ss.set k (f k)) := by
  refine ⟨by rw [List.length_set]; exact h.1, fun j hj => ?_⟩
  rw [List.getElem?_set]
  by_cases e : k = j
  · subst e
    rw [if_pos rfl, if_pos (by rw [h.1]; exact hk)]
  · rw [if_neg e]
    exact h.2 j (by omega)
theorem Tl.done {n : Nat} {f : Nat → ByteArray} {ss : List ByteArray} (h : Tl n f n ss) : ss = (List.range n).map f := by
  apply List.ext_getElem?
  intro j
  by_cases hj : j < n
  · rw [h.2 j hj]; simp [hj]
  · rw [List.getElem?_eq_none (by rw [h.1]; omega), List.getElem?_eq_none (by simp; omega)]
theorem range_gz {α : Type} (zs : List Int) (f : Int → α) : (List.range zs.length).map (fun j => f (M.gz zs j)) = zs.map f := by
  apply List.ext_getElem?
  intro j
  by_cases hj : j < zs.length
  · simp [hj, M.gz]
  · rw [List.getElem?_eq_none (by simp; omega), List.getElem?_eq_none (by simp; omega)]
theorem jlen : ∀ (l : List Int), M.I64 l → (Lib.join (l.map Lib.itoa) [32]).length ≤ 22 * l.length + 1 := by
  intro l h
  have := M.lens_le l h
  cases l with
  | nil => simp [Lib.join_nil]
  | cons a l =>
    rw [List.map_cons] at this ⊢
    rw [Lib.join_length]
    simp only [List.length_map, List.length_cons, List.length_nil] at this ⊢
    omega

set_option maxRecDepth 100000 in
set_option maxHeartbeats 400000 in
theorem btext_any (A : Option Addr) (c : Nat) (zs : List Int) (w : World) (he : Env w) (h : Rd w A zs) (hv : M.I64 zs) (hl : zs.length ≤ 10000) :
    Calls Tryd.prog 33 #[.slice A zs.length c] w fun e w' => e = .returned (.string ⟨(Lib.join (zs.map Lib.itoa) [32]).toArray⟩) ∧ Below w.heap.size w w' := by
  have HV := Lib.hid hv
  clear hv
  go_enter Tryd.func33, Tryd.ntmps33
  go_wp2_with (refine wpList_make_strs _ rfl _ _ rfl _ zs.length rfl rfl rfl (by omega) ?_)
  intro w1 hB1 hb1
  go_wp2
  obtain ⟨g, hg⟩ : ∃ g, w.heap.size = g := ⟨_, rfl⟩
  have hgB : w.heap.size ≤ g := by omega
  rw [hg] at hB1 ⊢
  clear hg
  go_loopw [11] (fun i wr => ∃ (k : Nat) (ss : List ByteArray), k ≤ zs.length ∧ i = .int .i64 k ∧ Hid (BlkS wr g ss) ∧ Hid (Tl zs.length (fun j => M.numB (M.gz zs j)) k ss) ∧ Below w.heap.size w wr) (fun i _ => zs.length - (intOf i).toNat)
  case atStart => exact ⟨0, _, Nat.zero_le _, rfl, hB1, Tl.start _ _ _, hb1⟩
  case round =>
    obtain ⟨k, ss, hk, rfl, hB, hX, hbr⟩ := hrel
    clear hB1 hb1
    by_cases hlt : k < zs.length
    · obtain ⟨b, off, rfl⟩ := h.opn (by omega)
      obtain ⟨z, hb, hc, hz⟩ := (h.below hbr).cl hlt
      have hzb := HV.out _ (M.gz_mem hlt)
      rw [hz.out] at hzb
      obtain ⟨hz1, hz2⟩ := hzb
      have HS := hX.out.step hlt
      simp only [hz.out] at HS
      have HS := Lib.hid HS
      have hgl := hB.out.lt
      have hlen := Lib.hid hX.out.1
      go_wp2_with fail
      refine (itoa_any _ _ (he.below hbr) hz1 hz2).mono ?_
      rintro e w2 ⟨rfl, hb2⟩
      rw [M.numB_def]
      have hB2 := Lib.hid (hB.out.below hb2 hgl)
      obtain ⟨x, hc2, hf2, hx⟩ := hB2.out.at_ (k := k) (by rw [hlen.out]; omega)
      have hbr2 := below_next hbr hb2
      clear hc hX hB hbr hb2 hgl
      go_wp2
      go_roundw
      case rel => exact ⟨k + 1, _, by omega, by go_num, hB2.out.set_ k (M.numB z), HS, hbr2.setCell hgB _⟩
      case measure => simp [intOf] <;> omega
    · obtain rfl : k = zs.length := by omega
      have HD : ss.map (·.data.toList) = zs.map Lib.itoa := by
        rw [hX.out.done, List.map_map]
        exact range_gz zs fun z => (M.numB z).data.toList
      have C := bjoin_at g zs.length (zs.map Lib.itoa) ⟨#[32]⟩ ss wr hB.out HD (by simp) (by have := jlen zs HV.out; show (Lib.join _ [32]).length ≤ _; omega) (by omega)
      clear HD hX
      go_wp2_with fail
      refine C.mono ?_
      rintro e w2 ⟨rfl, hb2⟩
      go_wp2
      go_ret
      exact ⟨rfl, below_next hbr hb2⟩
end Go.Proofs.YtnhibkkkpmaddaaDoor
