/-
  What the law WalksKnown reckons and calls, in its words. No statement is proved here.
-/
import Derived.Test.YthemaombpddbbaaWe6
import Derived.Test.YthemaombpddbbaaWe2
import Derived.Test.YthemaombpddbbaaWg2
import Derived.Test.YthemaombpddbbaaWi2
import Derived.Test.YthemaombpddbbaaWh2
import Derived.Test.YthemaombpddbbaaWj2
namespace Go.Proofs.Ythemaombpddbbaa
open Go.RowKit
open Mc (Ed Ma)

namespace Mc
/-- A row of the ring of 64 states. -/
def rk6 (s : Nat) : List Ed := [(((s : Int) + 63) % 64, 0), ((s : Int), 0)]
def rg6 : Ma := ⟨2, 1, (List.range 64).map rk6⟩
theorem rg6_len : rg6.r.length = 64 := by simp [rg6]
theorem rg6_at {s : Nat} (h : s < 64) : rg6.r[s]? = some (rk6 s) := by simp [rg6, h]
theorem rg6_val : Val rg6 := val_of (by decide +kernel)
theorem rg6_path : oB ((wk rg6 0).lookup 1) = true ∧ (oW ((wk rg6 0).lookup 1)).length = 63 := by decide +kernel
theorem rg6_dist : (tab oD (wk rg6 10) 64)[9]? = some 1 ∧ (tab oD (wk rg6 10) 64)[10]? = some 0 ∧ (tab oD (wk rg6 10) 64)[11]? = some 63 := by decide +kernel
end Mc
theorem kPath6 (R : Option Addr) (c : Nat) (w : World) (hr : RdR w R Mc.rg6.r) :
    Calls Try.prog 30 #[.agg #[.int .i64 2, .int .i64 1, .slice R 64 c], .int .i64 0, .int .i64 1] w fun e w' => ∃ B, e = .returned (.tuple #[.slice B 63 63, .bool true, .int .i64 0]) ∧ Below w.heap.size w w' := by
  refine (path_at Mc.rg6 2 1 R 64 c w 0 1 Mc.rg6_val rfl rfl Mc.rg6_len (by decide) (by decide) hr).mono ?_
  rintro e w' ⟨B, k, rfl, hk, _, _, hb⟩
  have h1 : (Mc.oW ((Mc.wk Mc.rg6 0).lookup 1)).length = k := hk.out
  have h2 : Mc.oB ((Mc.wk Mc.rg6 ((0 : Nat) : Int)).lookup ((1 : Nat) : Int)) = true := Mc.rg6_path.1
  rw [Mc.rg6_path.2] at h1
  subst h1
  rw [h2]
  exact ⟨B, rfl, hb⟩
theorem kDist6 (R : Option Addr) (c : Nat) (w : World) (hr : RdR w R Mc.rg6.r) :
    Calls Try.prog 29 #[.agg #[.int .i64 2, .int .i64 1, .slice R 64 c], .int .i64 10] w fun e w' => ∃ b o, e = .returned (.tuple #[.slice (some ⟨b, o, none⟩) 64 64, .int .i64 0]) ∧ w'.cell? ⟨b, o + 9, none⟩ = some (.int .i64 1) ∧ w'.cell? ⟨b, o + 10, none⟩ = some (.int .i64 0) ∧ w'.cell? ⟨b, o + 11, none⟩ = some (.int .i64 63) ∧ Below w.heap.size w w' := by
  refine (dist_at Mc.rg6 2 1 R 64 c w 10 Mc.rg6_val rfl rfl Mc.rg6_len (by decide) hr).mono ?_
  rintro e w' ⟨B, rfl, hrd, hb⟩
  obtain ⟨b, o, rfl, h9⟩ := Rd.val (k := 9) hrd Mc.rg6_dist.1
  obtain ⟨_, _, e1, h10⟩ := Rd.val (k := 10) hrd Mc.rg6_dist.2.1
  injection e1 with e1
  injection e1 with e1 e2
  subst e1 e2
  obtain ⟨_, _, e1, h11⟩ := Rd.val (k := 11) hrd Mc.rg6_dist.2.2
  injection e1 with e1
  injection e1 with e1 e2
  subst e1 e2
  exact ⟨b, o, rfl, h9, h10, h11, hb⟩

/-! ### Numbers that the call itself gathers -/
def u16s (zs : List Int) : List Value := zs.map (Value.int .u16)
theorem u16s_len (zs : List Int) : (u16s zs).length = zs.length := by simp [u16s]
theorem u16s_snoc (zs : List Int) (z : Int) : u16s zs ++ [.int .u16 z] = u16s (zs ++ [z]) := by simp [u16s]
def u8s (zs : List Int) : List Value := zs.map (Value.int .u8)
theorem u8s_len (zs : List Int) : (u8s zs).length = zs.length := by simp [u8s]
theorem u8s_snoc (zs : List Int) (z : Int) : u8s zs ++ [.int .u8 z] = u8s (zs ++ [z]) := by simp [u8s]
theorem u16_info : (Try.prog.info? 75).map (fun i => (i.zero, i.size, i.bytes)) = some (some (.int .u16 0), 1, 2) := by kernel_rfl
theorem u8_info : (Try.prog.info? 5).map (fun i => (i.zero, i.size, i.bytes)) = some (some (.int .u8 0), 1, 1) := by kernel_rfl
theorem Rd16.of_own {w : World} {base : Nat} {A : Option Addr} {n c : Nat} {zs : List Int} (h : w.ownsRow base 75 1 (.slice A n c) n (u16s zs)) (hz : ∀ z ∈ zs, 0 ≤ z ∧ z ≤ 65535) : Rd16 w A zs := fun hp => by
  have hn : zs.length = n := by have := h.1; rw [u16s_len] at this; omega
  obtain ⟨g, cap, hv, _, hlt⟩ := h.form (by omega)
  have hA : A = some ⟨g, 0, none⟩ := by injection hv
  subst hA
  refine ⟨g, 0, rfl, hlt, fun k z hk => ⟨?_, hz z (List.mem_of_getElem? hk)⟩⟩
  have := h.cells (g := g) rfl k (.int .u16 z) (by simp [u16s, hk])
  rw [Nat.zero_add]
  rw [Addr.add_lit] at this
  simpa using this
theorem Rd8.of_own {w : World} {base : Nat} {A : Option Addr} {n c : Nat} {zs : List Int} (h : w.ownsRow base 5 1 (.slice A n c) n (u8s zs)) (hz : ∀ z ∈ zs, 0 ≤ z ∧ z ≤ 255) : Rd8 w A zs := fun hp => by
  have hn : zs.length = n := by have := h.1; rw [u8s_len] at this; omega
  obtain ⟨g, cap, hv, _, hlt⟩ := h.form (by omega)
  have hA : A = some ⟨g, 0, none⟩ := by injection hv
  subst hA
  refine ⟨g, 0, rfl, hlt, fun k hk => ?_⟩
  have hkz := hz zs[k] (List.getElem_mem hk)
  have := h.cells (g := g) rfl k (.int .u8 zs[k]) (by simp [u8s, List.getElem?_eq_getElem hk])
  rw [Addr.add_lit] at this
  rw [Nat.zero_add, List.getElem?_eq_getElem hk]
  exact ⟨by simpa using this, hkz.1, hkz.2⟩
theorem own_slice {w : World} {base n sz : Nat} {t : TypeId} {v : Value} {xs : List Value} (h : w.ownsRow base t sz v n xs) : ∃ A c, v = .slice A n c ∧ n ≤ c := by
  rcases h.2 with ⟨rfl, h0⟩ | ⟨g, cap, cur, rfl, _, _, hc, _⟩
  · exact ⟨none, 0, by rw [h0], by omega⟩
  · exact ⟨_, _, rfl, hc⟩
theorem u16_bd (r : Int) : 0 ≤ IntKind.u16.wrap r ∧ IntKind.u16.wrap r ≤ 65535 := by
  unfold IntKind.wrap
  simp [IntKind.bits, IntKind.signed]
  omega
theorem u8_bd (r : Int) : 0 ≤ IntKind.u8.wrap r ∧ IntKind.u8.wrap r ≤ 255 := by
  rw [IntKind.wrap_u8]
  omega
theorem rd8_lit (w : World) (zs : List Int) (hz : ∀ z ∈ zs, 0 ≤ z ∧ z ≤ 255) : Rd8 (w.alloc (.cells (zs.map (Value.int .u8)).toArray 5)) (some ⟨w.heap.size, 0, none⟩) zs := fun _ => by
  refine ⟨w.heap.size, 0, rfl, by simp, fun k hk => ?_⟩
  rw [World.cell?_alloc_at _ _ _ _ rfl, Nat.zero_add]
  have := hz zs[k] (List.getElem_mem hk)
  refine ⟨?_, by simpa [List.getElem?_eq_getElem hk] using this⟩
  simp [List.getElem?_eq_getElem hk]
section
variable (a b d : Int) (p : Bool) (A : Option Addr) (n c : Nat) (es : List Int) (w : World) (hr : Rd16 w A es) (hn : es.length = n) (hl : n ≤ 1000) (ha : 0 ≤ a ∧ a ≤ 255) (hb : 0 ≤ b ∧ b ≤ 255) (hd : 0 ≤ d ∧ d ≤ 255)
include hr hn hl ha hb hd
theorem kAccess : Calls Try.prog 37 #[.agg #[.int .u8 a, .int .u8 b, .int .u8 d, .bool p, .slice A n c]] w fun e w' => e = .returned (.bool true) ∧ Below w.heap.size w w' := by
  subst hn
  exact lawAccess_walk a b d p A c es w hr (by omega) ha hb hd
theorem kPath (p0 p1 : Int) (hp0 : 0 ≤ p0 ∧ p0 ≤ 255) (hp1 : 0 ≤ p1 ∧ p1 ≤ 255) : Calls Try.prog 38 #[.agg #[.int .u8 a, .int .u8 b, .int .u8 d, .bool p, .slice A n c], .int .u8 p0, .int .u8 p1] w fun e w' => e = .returned (.bool true) ∧ Below w.heap.size w w' := by
  subst hn
  exact lawPath_walk a b d p A c es p0 p1 w hr (by omega) ha hb hd hp0 hp1
theorem kTrim (B : Option Addr) (m k : Nat) (ws : List Int) (hw : Rd8 w B ws) (hm : ws.length = m) (hl2 : m ≤ 1000) : Calls Try.prog 39 #[.agg #[.int .u8 a, .int .u8 b, .int .u8 d, .bool p, .slice A n c], .agg #[.slice B m k]] w fun e w' => e = .returned (.bool true) ∧ Below w.heap.size w w' := by
  subst hn hm
  exact lawTrim_walk a b d p A c es B k ws w hr hw (by omega) (by omega) ha hb hd
theorem kCanon (B : Option Addr) (m k : Nat) (ws : List Int) (hw : Rd8 w B ws) (hm : ws.length = m) (hl2 : m ≤ 1000) (S : Option Addr) (s f : Nat) (ss : List Int) (hs : Rd8 w S ss) (hsl : ss.length = s) : Calls Try.prog 3 #[.agg #[.int .u8 a, .int .u8 b, .int .u8 d, .bool p, .slice A n c], .agg #[.slice B m k], .slice S s f] w fun e w' => e = .returned (.bool true) ∧ Below w.heap.size w w' := by
  subst hn hm hsl
  exact lawCanon_walk a b d p A c es B k ws S f ss w hr hw hs (by omega) (by omega) ha hb hd
theorem kIso (x0 x1 : Int) (hx0 : 0 ≤ x0 ∧ x0 ≤ 255) (hx1 : 0 ≤ x1 ∧ x1 ≤ 255) : Calls Try.prog 4 #[.agg #[.int .u8 a, .int .u8 b, .int .u8 d, .bool p, .slice A n c], .agg #[.int .u8 a, .int .u8 b, .int .u8 d, .bool p, .slice A n c], .agg #[.int .u8 x0, .int .u8 x1]] w fun e w' => e = .returned (.bool true) ∧ Below w.heap.size w w' := by
  subst hn
  exact lawIso_walk a b d p A c es a b d p A c es x0 x1 w hr hr (by omega) (by omega) ha hb hd ha hb hd hx0 hx1
end
theorem kC (a b d : Int) (A : Option Addr) (n c : Nat) (es : List Int) (w : World) (hr : Rd16 w A es) (hn : es.length = n) (ha : 0 ≤ a ∧ a ≤ 255) (hb : 0 ≤ b ∧ b ≤ 255) (hd : 0 ≤ d ∧ d ≤ 255) (T : Option Addr) (t tc : Nat) (ts : List Int) (hT : Rd8 w T ts) (ht : ts.length = t) (htl : t ≤ 1000) :
    Calls Try.prog 6 #[.agg #[.int .u8 a, .int .u8 b, .int .u8 d, .slice T t tc, .slice A n c]] w fun e w' => e = .returned (.bool true) ∧ Below w.heap.size w w' := by
  subst hn ht
  exact lawC_walk a b d T tc ts A c es w hT hr (by omega) ha hb hd
end Go.Proofs.Ythemaombpddbbaa
