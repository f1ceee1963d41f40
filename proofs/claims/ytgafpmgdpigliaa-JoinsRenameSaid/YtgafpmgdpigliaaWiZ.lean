/-
  Several texts in one: Wc6, Qc6. No statement is proved here.
-/
import Derived.Test.YtgafpmgdpigliaaWcY
import Derived.Test.YtgafpmgdpigliaaSMd11
import Derived.Deep.CutRange
namespace Go.Proofs.Ytgafpmgdpigliaa
open Go.RowKit
open Mc (Ed Ma)

namespace Mc
/-- What corresponds to each of the first n states, by the first k places. -/
def cor (la lb : List Int) (n k : Nat) : List Int := (List.range n).map fun (s : Nat) => if (s : Int) ∈ la.take k then (lb[(ix la s).toNat]?).getD (-1) else -1
theorem cor_len (la lb : List Int) (n k : Nat) : (cor la lb n k).length = n := by simp [cor]
theorem cor_zero (la lb : List Int) (n : Nat) : cor la lb n 0 = List.replicate n (-1) := by
  unfold cor
  apply List.ext_getElem?
  intro t
  rw [List.getElem?_map]
  rcases Nat.lt_or_ge t n with h | h
  · rw [List.getElem?_range h, List.getElem?_replicate, if_pos h]
    simp
  · rw [List.getElem?_eq_none (by simpa using h), List.getElem?_eq_none (by simpa using h)]
    rfl
theorem cor_snoc {la lb : List Int} {n k s : Nat} {t : Int} (hd : la.Nodup) (ha : la[k]? = some (s : Int)) (hb : lb[k]? = some t) : cor la lb n (k + 1) = (cor la lb n k).set s t := by
  apply List.ext_getElem?
  intro j
  rcases Nat.lt_or_ge j n with hj | hj
  · have e1 : ∀ k, (cor la lb n k)[j]? = some (if (j : Int) ∈ la.take k then (lb[(ix la j).toNat]?).getD (-1) else -1) := fun k => by simp [cor, hj]
    rw [e1]
    have htk : la.take (k + 1) = la.take k ++ [(s : Int)] := by
      rw [List.take_add_one, ha]
      rfl
    by_cases e : s = j
    · subst e
      rw [List.getElem?_set_self (by rw [cor_len]; exact hj), htk, if_pos (by simp), ix_at hd ha, Int.toNat_natCast, hb]
      rfl
    · rw [List.getElem?_set_ne e, e1, htk]
      have : ((j : Int) ∈ la.take k ++ [(s : Int)]) ↔ (j : Int) ∈ la.take k := by
        rw [List.mem_append]
        constructor
        · rintro (h | h)
          · exact h
          · simp at h
            omega
        · exact Or.inl
      simp only [this]
  · rw [List.getElem?_eq_none (by rw [cor_len]; exact hj), List.getElem?_eq_none (by rw [List.length_set, cor_len]; exact hj)]
/-- What Isomorphic tells. -/
noncomputable def isoE (a b : Ma) : Int := if chk a ≠ 0 then chk a else chk b
noncomputable def isoB (a b : Ma) : Bool := if isoE a b ≠ 0 then false else decide (prt a (ord a) = prt b (ord b))
noncomputable def isoV (a b : Ma) : List Int := if isoB a b = true then cor (ord a) (ord b) a.r.length (ord a).length else []
end Mc
/-- What Isomorphic hands back. -/
def IsoP (w : World) (a b : Ma) (e : Ending) (w' : World) : Prop := ∃ B k, e = .returned (.tuple #[.slice B k k, .bool (Mc.isoB a b), .int .i64 (Mc.isoE a b)]) ∧ Hid ((Mc.isoV a b).length = k) ∧ Rd w' B (Mc.isoV a b) ∧ Below w.heap.size w w'
/-- Two machines in boxes of the call's own. -/
structure B2 (w : World) (a b : Ma) (A B : Option Addr) (n c k d : Nat) (W : World) : Prop where
  bel : Below w.heap.size w W
  ba : BxM W w.heap.size a.i a.o A n c
  bb : BxM W (w.heap.size + 1) b.i b.o B k d
theorem B2.below {w W W' : World} {a b : Ma} {A B : Option Addr} {n c k d : Nat} (h : B2 w a b A B n c k d W) (x : Below W.heap.size W W') : B2 w a b A B n c k d W' := ⟨below_next h.bel x, h.ba.mvB x, h.bb.mvB x⟩

namespace Mc
theorem samV_left {a b : Ma} (va : Val a) : samV a b = decide (a = b) := by
  unfold samV
  rw [chk_of va]
  by_cases h : a = b
  · subst h
    rw [chk_of va]
    rfl
  · simp [h]
end Mc
theorem Wb.rd {base p n : Nat} {rs : List (List Ed)} {gs : List Nat} {W : World} (h : Wb base p n rs gs W) (hg : gs.length = n) (hn : n = rs.length) (hm : n ≤ 1000000) (hrl : ∀ row ∈ rs, row.length ≤ 1000000) : RdR W (some ⟨p, 0, none⟩) rs := by
  obtain ⟨A, c, hv, _, _, _, hr⟩ := (h.bld hg hn (by unfold maxLen; omega) (fun row hrow => by have := hrl row hrow; unfold maxLen; omega)).rd
  injection hv with hv
  rw [hv]
  exact hr
/-- A machine whose rows lie in blocks of their own. -/
def Rw (W : World) (p k : Nat) (m : Ma) (l : List Int) : Prop := ∃ gs : List Nat, gs.length = k ∧ l.length = k ∧ Wb 0 p k (Mc.prt m l).r gs W
theorem ord_val {m : Ma} (v : Mc.Val m) : Mc.Val (Mc.prt m (Mc.ord m)) := Mc.prt_val v (Mc.ord_cls v) (Mc.ord_pos v) (by
  have := Mc.nodup_le m.r.length _ (Mc.ord_cls v).nd (Mc.ord_cls v).rg
  have := v.r1
  omega)
theorem Rw.rd {W : World} {p k : Nat} {m : Ma} {l : List Int} (h : Rw W p k m l) (v : Mc.Val (Mc.prt m l)) : RdR W (some ⟨p, 0, none⟩) (Mc.prt m l).r ∧ (Mc.prt m l).r.length = k ∧ k ≤ 1000000 := by
  obtain ⟨gs, h1, h2, h3⟩ := h
  have h4 : (Mc.prt m l).r.length = k := by rw [Mc.prt_len]; exact h2
  have h5 : k ≤ 1000000 := by have := v.r1; omega
  exact ⟨h3.rd h1 h4.symm h5 v.rows, h4, h5⟩
theorem run_idx0 (i o i' o' : Int) (A B : Option Addr) (n c k d : Nat) (w : World) : (Instr.index 25 (.agg #[.int .i64 i, .int .i64 o, .slice A n c, .int .i64 i', .int .i64 o', .slice B k d]) (.int .i64 0)).run Try.prog w = .ok (.agg #[.int .i64 i, .int .i64 o, .slice A n c]) w := by kernel_rfl
theorem run_idx1 (i o i' o' : Int) (A B : Option Addr) (n c k d : Nat) (w : World) : (Instr.index 25 (.agg #[.int .i64 i, .int .i64 o, .slice A n c, .int .i64 i', .int .i64 o', .slice B k d]) (.int .i64 1)).run Try.prog w = .ok (.agg #[.int .i64 i', .int .i64 o', .slice B k d]) w := by kernel_rfl
end Go.Proofs.Ytgafpmgdpigliaa

namespace Go.Proofs.Ytgafpmgdpigliaa
open Go.RowKit
open Mc (Ed Ma)

/-- What Isomorphic hands back of isomorphic machines. -/
def IsoO (w : World) (a b : Ma) (e : Ending) (w' : World) : Prop := ∃ g k, e = .returned (.tuple #[.slice (some ⟨g, 0, none⟩) k k, .bool true, .int .i64 0]) ∧ Hid ((Mc.isoV a b).length = k) ∧ Hid (w.heap.size ≤ g) ∧ Hid (Blk w' g (Mc.isoV a b)) ∧ Below w.heap.size w w'
end Go.Proofs.Ytgafpmgdpigliaa
