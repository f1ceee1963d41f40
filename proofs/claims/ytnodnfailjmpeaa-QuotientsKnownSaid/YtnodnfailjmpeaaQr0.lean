/-
  Contracts of layer 9 in the words of a law's walk. No statement is proved here.
-/
import Derived.Test.YtnodnfailjmpeaaQlZ
import Derived.Test.YtnodnfailjmpeaaQA
import Derived.Test.YtnodnfailjmpeaaQB
import Derived.Test.YtnodnfailjmpeaaQC
import Derived.Deep.RegionHeld3
import Derived.Deep.CutRange
namespace Go.Proofs.Ytnodnfailjmpeaa
open Go.RowKit
open Mc (Ed Ma)

namespace Mc
theorem sym_wd9 {m : Ma} {i : Int} {zs : List Int} (hi : m.i = i) (h1 : 1 ≤ i) : Wd m (M.sym i zs) := by
  intro c hc
  have hc : c ∈ (zs.take 12).map (· % i) := hc
  obtain ⟨z, _, rfl⟩ := List.mem_map.1 hc
  rw [hi]
  exact ⟨Int.emod_nonneg _ (by omega), Int.emod_lt_of_pos _ (by omega)⟩
theorem sym_len9 (i : Int) (zs : List Int) : (M.sym i zs).length ≤ 12 := by
  show ((zs.take 12).map (· % i)).length ≤ 12
  rw [List.length_map, List.length_take]; omega
/-- The two ways to say what a machine lacks. -/
theorem prp_prR {m : Ma} (v : Val m) : prp m = prR m := by
  unfold prp prR cmpV conV
  rw [chk_of v, if_pos rfl, if_pos rfl]
theorem prp_qn {m : Ma} (v : Val m) (hc : cmpV (qn m) = true) : prp (qn m) = 0 := by
  unfold prp
  rw [hc, if_neg (by simp), show conV (qn m) = true by unfold conV; rw [chk_of (qn_val v), qn_conn v]; rfl, if_neg (by simp), qn_own v, if_pos rfl]
end Mc
theorem wof9_at (A : Option Addr) (c : Nat) (zs : List Int) (n : Nat) (w : World) (h : Rd8 w A zs) (h1 : 1 ≤ n) (h2 : n ≤ 16) (hm : zs.length ≤ 9223372036854775807) :
    Calls Try.prog 27 #[.agg #[.slice A zs.length c], .int .i64 n] w fun e w' => ∃ B k q, e = .returned (.slice B k q) ∧ Hid ((M.sym n zs).length = k) ∧ k ≤ 12 ∧ Rd w' B (M.sym n zs) ∧ Below w.heap.size w w' := by
  refine (of_any A c zs n w h (by omega) (by omega) hm).mono ?_
  rintro e w' ⟨B, q, rfl, hrd, hc, hb⟩
  exact ⟨B, _, q, rfl, rfl, Mc.sym_len9 _ _, hrd, hb⟩
section
variable (m : Ma) (i : Nat) (o : Int) (A : Option Addr) (n c : Nat) (w : World)
theorem qmin_to (C : Ma) (K : Nat) (v : Mc.Val m) (hi : m.i = i) (ho : m.o = o) (hn : m.r.length = n) (hr : RdR w A m.r) (hC : Mc.qn m = C) (hK : C.r.length = K) :
    Calls Try.prog 11 #[.agg #[.int .i64 i, .int .i64 o, .slice A n c]] w fun e w' => ∃ P, e = .returned (.tuple #[.agg #[.int .i64 i, .int .i64 o, .slice (some ⟨P, 0, none⟩) K K], .int .i64 0]) ∧ Ex w' P K C.r ∧ Below w.heap.size w w' := by
  subst hC
  exact qmin_at m i o A n c w K v hi ho hn hK hr
theorem rqmin_to (C : Ma) (K : Nat) (v : Mc.Val m) (hi : m.i = i) (ho : m.o = o) (hn : m.r.length = n) (hr : RdR w A m.r) (hC : Mc.qn m = C) (hK : C.r.length = K) :
    Calls Try.prog 29 #[.agg #[.int .i64 i, .int .i64 o, .slice A n c]] w fun e w' => ∃ B d, e = .returned (.agg #[.int .i64 i, .int .i64 o, .slice B K d]) ∧ RdR w' B C.r ∧ Below w.heap.size w w' := by
  subst hC hK
  refine (rqmin_any m i o A n c w v hi ho hn hr).mono ?_
  rintro e w' ⟨V, vs, rfl, hB, hb⟩
  obtain ⟨B, d, rfl, _, _, _, hR⟩ := hB.out.rd
  exact ⟨B, d, rfl, hR, hb⟩
theorem conn9_at (b : Bool) (v : Mc.Val m) (hi : m.i = i) (ho : m.o = o) (hn : m.r.length = n) (hr : RdR w A m.r) (hb : Mc.conn m = b) :
    Calls Try.prog 46 #[.agg #[.int .i64 i, .int .i64 o, .slice A n c]] w fun e w' => e = .returned (.bool b) ∧ Below w.heap.size w w' := by
  subst hb ho hn
  rw [← hi]
  exact connected_any m A c w v hr
end
section
variable (a b : Ma) (i i' : Nat) (o o' : Int) (A B : Option Addr) (n c k d : Nat) (F : Option Addr) (e : Nat) (f : List Int) (w : World)
theorem qhom_to (β : Bool) (va : Mc.Val a) (vb : Mc.Val b) (hi : a.i = i) (ho : a.o = o) (hi' : b.i = i) (ho' : b.o = o') (hr : RdR w A a.r) (hq : RdR w B b.r) (hn : a.r.length = n) (hk : b.r.length = k) (hF : Rd w F f) (hf : f.length = n) (hfr : ∀ s : Nat, s < n → 0 ≤ M.gz f s ∧ M.gz f s < k) (hβ : β = true ↔ Mc.Hom a b f) :
    Calls Try.prog 45 #[.agg #[.int .i64 i, .int .i64 o, .slice A n c], .agg #[.int .i64 i, .int .i64 o', .slice B k d], .slice F n e] w fun e w' => e = .returned (.tuple #[.bool β, .int .i64 0]) ∧ Below w.heap.size w w' := by
  have hii : a.i = b.i := by rw [hi, hi']
  have := qhom_any a b A B n c k d F e f w va vb hr hq hn hk hF hf hii hfr β (by rw [hβ, Mc.homP_iff va vb hii (by rw [hn, hk]; exact hfr)])
  rw [hi, ho, hi', ho'] at this
  exact this
theorem rhom_to (r : Int) (va : Mc.Val a) (vb : Mc.Val b) (hi : a.i = i) (ho : a.o = o) (hi' : b.i = i) (ho' : b.o = o') (hr : RdR w A a.r) (hq : RdR w B b.r) (hn : a.r.length = n) (hk : b.r.length = k) (hF : Rd w F f) (hf : f.length = n) (hfr : ∀ s : Nat, s < n → 0 ≤ M.gz f s ∧ M.gz f s < k) (hr1 : Mc.Hom a b f → r = 1) (hr0 : ¬ Mc.Hom a b f → r = 0) :
    Calls Try.prog 51 #[.agg #[.int .i64 i, .int .i64 o, .slice A n c], .agg #[.int .i64 i, .int .i64 o', .slice B k d], .slice F n e] w fun e w' => e = .returned (.int .i64 r) ∧ Below w.heap.size w w' := by
  have := rhom_any a b A B n c k d F e f w va vb hr hq hn hk hF hf (by rw [hi, hi']) hfr r hr1 hr0
  rw [hi, ho, hi', ho'] at this
  exact this
end
theorem rsame9_yes (X Y : Option Addr) (k c d : Nat) (x : List Int) (w : World) (hx : Rd w X x) (hy : Rd w Y x) (hk : x.length = k) (hk6 : k ≤ 1000000) :
    Calls Try.prog 24 #[.slice X k c, .slice Y k d] w fun e w' => e = .returned (.bool true) ∧ Below w.heap.size w w' := by
  have := same_at w X Y k c d x x hx hy hk hk hk6
  rwa [M.same_yes rfl] at this
end Go.Proofs.Ytnodnfailjmpeaa
