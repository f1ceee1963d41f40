/-
  Contracts for the walks of the laws of layer 7: Classes, Equivalent and Respects at a valid machine; words of the law's own. No statement is proved here.
-/
import Derived.Test.YtonnplhiaidjnaaRf7
import Derived.Test.YtonnplhiaidjnaaSkA
namespace Go.Proofs.Ytonnplhiaidjnaa
open Go.RowKit
open Mc (Ed Ma)

namespace Mc
theorem sym_wd {m : Ma} {i : Int} {zs : List Int} (hi : m.i = i) (h1 : 1 ≤ i) : Wd m (M.sym i zs) := by
  intro c hc
  have hc : c ∈ (zs.take 12).map (· % i) := hc
  obtain ⟨z, _, rfl⟩ := List.mem_map.1 hc
  rw [hi]
  exact ⟨Int.emod_nonneg _ (by omega), Int.emod_lt_of_pos _ (by omega)⟩
theorem sym_len (i : Int) (zs : List Int) : (M.sym i zs).length ≤ 12 := by
  show ((zs.take 12).map (· % i)).length ≤ 12
  rw [List.length_map, List.length_take]; omega
end Mc
theorem wof_at (A : Option Addr) (c : Nat) (zs : List Int) (n : Nat) (w : World) (h : Rd8 w A zs) (h1 : 1 ≤ n) (h2 : n ≤ 16) (hm : zs.length ≤ 9223372036854775807) :
    Calls Try.prog 23 #[.agg #[.slice A zs.length c], .int .i64 n] w fun e w' => ∃ B k q, e = .returned (.slice B k q) ∧ Hid ((M.sym n zs).length = k) ∧ k ≤ 12 ∧ Rd w' B (M.sym n zs) ∧ Below w.heap.size w w' := by
  refine (of_any A c zs n w h (by omega) (by omega) hm).mono ?_
  rintro e w' ⟨B, q, rfl, hrd, hc, hb⟩
  exact ⟨B, _, q, rfl, rfl, Mc.sym_len _ _, hrd, hb⟩
theorem z_cells {w : World} {K : Nat} {x0 x1 : Int} (h : w.heap[K]? = some (.cells #[.int .i64 x0, .int .i64 x1] 42)) : w.cell? ⟨K, 0, none⟩ = some (.int .i64 x0) ∧ w.cell? ⟨K, 1, none⟩ = some (.int .i64 x1) :=
  ⟨by rw [cell_of_row _ _ _ _ _ _ h]; rfl, by rw [cell_of_row _ _ _ _ _ _ h]; rfl⟩
section
variable (m : Ma) (i o : Int) (A : Option Addr) (n c : Nat) (w : World)
theorem pclasses_at (v : Mc.Val m) (hi : m.i = i) (ho : m.o = o) (hn : m.r.length = n) (hr : RdR w A m.r) :
    Calls Try.prog 15 #[.agg #[.int .i64 i, .int .i64 o, .slice A n c]] w fun e w' => ∃ B, e = .returned (.tuple #[.slice B n n, .int .i64 (Mc.lst m : Nat), .int .i64 0]) ∧ Rd w' B (Mc.cls m) ∧ Below w.heap.size w w' := by
  subst hi ho hn
  have hc := Mc.chk_of v
  have h1 := v.r1
  have h := classes_any m.i m.o m.r A m.r.length c w hr rfl (by omega) (fun row hrow => by have := v.len row hrow; have := v.i1; omega)
  have e1 : Mc.clV ⟨m.i, m.o, m.r⟩ = Mc.cls m := by unfold Mc.clV; rw [if_pos hc]
  have e2 : Mc.clN ⟨m.i, m.o, m.r⟩ = (Mc.lst m : Nat) := by unfold Mc.clN; rw [if_pos hc]
  rw [e1, e2, show Mc.chk ⟨m.i, m.o, m.r⟩ = 0 from hc] at h
  refine h.mono ?_
  rintro e w' ⟨B, rfl, h1, h2⟩
  rw [show (Mc.cls m).length = m.r.length from Mc.rnd_len _ _]
  exact ⟨B, rfl, h1, h2⟩
theorem pequiv_at (s t : Int) (v : Mc.Val m) (hi : m.i = i) (ho : m.o = o) (hn : m.r.length = n) (hr : RdR w A m.r) :
    Calls Try.prog 24 #[.agg #[.int .i64 i, .int .i64 o, .slice A n c], .int .i64 s, .int .i64 t] w fun e w' => e = .returned (.tuple #[.bool (Mc.eqV m s t), .int .i64 (Mc.eqE m s t)]) ∧ Below w.heap.size w w' := by
  subst hi ho hn
  have h1 := v.r1
  exact equiv_any m.i m.o m.r A m.r.length c s t w hr rfl (by omega) (fun row hrow => by have := v.len row hrow; have := v.i1; omega)
theorem presp_at (P : Option Addr) (d l : Nat) (p : List Int) (v : Mc.Val m) (hi : m.i = i) (ho : m.o = o) (hn : m.r.length = n) (hr : RdR w A m.r) (hp : Rd w P p) (hl : p.length = n) (hv : M.Vd p) (hln : l = n) :
    Calls Try.prog 27 #[.agg #[.int .i64 i, .int .i64 o, .slice A n c], .slice P l d] w fun e w' => e = .returned (.tuple #[.bool (Mc.rfd m p == p), .int .i64 0]) ∧ Below w.heap.size w w' := by
  subst hln
  subst hi ho hn
  have h1 := v.r1
  have h := respects_any m.i m.o m.r A P m.r.length c d m.r.length p w hr rfl (by omega) (fun row hrow => by have := v.len row hrow; have := v.i1; omega) hp hl
  have e1 : Mc.rsE ⟨m.i, m.o, m.r⟩ p = 0 := by unfold Mc.rsE; rw [if_pos (show Mc.chk ⟨m.i, m.o, m.r⟩ = 0 from Mc.chk_of v), if_pos (M.pck_ok (by omega) hv), if_pos hl]
  have e2 : Mc.rsV ⟨m.i, m.o, m.r⟩ p = (Mc.rfd m p == p) := by unfold Mc.rsV; rw [e1]; simp
  rw [e1, e2] at h
  exact h
theorem rfiner_at (P Q : Option Addr) (k c d : Nat) (p q : List Int) (hp : Rd w P p) (hq : Rd w Q q) (h1 : p.length = k) (h2 : q.length = k) (hk : k ≤ 300) (hf : M.fin p q) :
    Calls Try.prog 21 #[.slice P k c, .slice Q k d] w fun e w' => e = .returned (.int .i64 1) ∧ Below w.heap.size w w' := by
  subst h1
  have := rfiner_any P Q c d p q w hp hq h2.symm hk
  rwa [h2, M.finI_yes hf] at this
end
namespace Mc
theorem cls_fin {m : Ma} (v : Val m) (k : Nat) : M.fin (cls m) (rnd m k) := fun s t hs ht e => by
  rw [show (cls m).length = m.r.length from rnd_len _ _] at hs ht
  exact (rnd_iff v k hs ht).2 fun w hw _ => cls_run v hs ht e w hw
theorem eqv_out {m : Ma} {s t : Int} (v : Val m) (h : ¬ inR m s t) : eqV m s t = false ∧ eqE m s t = 1 := by
  have hc := chk_of v
  unfold eqV eqE
  simp [hc, h]
theorem eqv_in {m : Ma} {s t : Nat} (v : Val m) (hs : s < m.r.length) (ht : t < m.r.length) : eqV m s t = (M.gz (cls m) s == M.gz (cls m) t) ∧ eqE m s t = 0 := by
  have hc := chk_of v
  have h : inR m s t := ⟨by omega, by omega, by omega, by omega⟩
  unfold eqV eqE
  simp [hc, h]
end Mc
end Go.Proofs.Ytonnplhiaidjnaa
