/-
  Several texts in one: Wc6, Qc6. No statement is proved here.
-/
import Derived.Test.YtgafpmgdpigliaaWcY
import Derived.Test.YtgafpmgdpigliaaSMd11
import Derived.Deep.CutRange
namespace Go.Proofs.Ytgafpmgdpigliaa
open Go.RowKit
open Mc (Ed Ma)

namespace Mc
end Mc
/-- Two machines in boxes of the call's own. -/
structure B2 (w : World) (a b : Ma) (A B : Option Addr) (n c k d : Nat) (W : World) : Prop where
  bel : Below w.heap.size w W
  ba : BxM W w.heap.size a.i a.o A n c
  bb : BxM W (w.heap.size + 1) b.i b.o B k d
theorem B2.below {w W W' : World} {a b : Ma} {A B : Option Addr} {n c k d : Nat} (h : B2 w a b A B n c k d W) (x : Below W.heap.size W W') : B2 w a b A B n c k d W' := ⟨below_next h.bel x, h.ba.mvB x, h.bb.mvB x⟩

namespace Mc
end Mc
theorem Wb.rd {base p n : Nat} {rs : List (List Ed)} {gs : List Nat} {W : World} (h : Wb base p n rs gs W) (hg : gs.length = n) (hn : n = rs.length) (hm : n ≤ 1000000) (hrl : ∀ row ∈ rs, row.length ≤ 1000000) : RdR W (some ⟨p, 0, none⟩) rs := by
  obtain ⟨A, c, hv, _, _, _, hr⟩ := (h.bld hg hn (by unfold maxLen; omega) (fun row hrow => by have := hrl row hrow; unfold maxLen; omega)).rd
  injection hv with hv
  rw [hv]
  exact hr
/-- A machine whose rows lie in blocks of their own. -/
def Rw (W : World) (p k : Nat) (m : Ma) (l : List Int) : Prop := ∃ gs : List Nat, gs.length = k ∧ l.length = k ∧ Wb 0 p k (Mc.prt m l).r gs W
theorem Rw.rd {W : World} {p k : Nat} {m : Ma} {l : List Int} (h : Rw W p k m l) (v : Mc.Val (Mc.prt m l)) : RdR W (some ⟨p, 0, none⟩) (Mc.prt m l).r ∧ (Mc.prt m l).r.length = k ∧ k ≤ 1000000 := by
  obtain ⟨gs, h1, h2, h3⟩ := h
  have h4 : (Mc.prt m l).r.length = k := by rw [Mc.prt_len]; exact h2
  have h5 : k ≤ 1000000 := by have := v.r1; omega
  exact ⟨h3.rd h1 h4.symm h5 v.rows, h4, h5⟩
end Go.Proofs.Ytgafpmgdpigliaa

namespace Go.Proofs.Ytgafpmgdpigliaa
open Go.RowKit
open Mc (Ed Ma)

end Go.Proofs.Ytgafpmgdpigliaa
