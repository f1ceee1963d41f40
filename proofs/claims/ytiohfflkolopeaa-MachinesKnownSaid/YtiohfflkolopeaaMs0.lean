/-
  Contracts in the words of a walk: Run and After of the program over good words; parts of lists. No statement is proved here.
-/
import Derived.Test.YtiohfflkolopeaaMc14
namespace Go.Proofs.Ytiohfflkolopeaa
open Go.RowKit
open Mc (Ed Ma)

theorem prun_ok {E : World → Prop} (P : Pm E) (m : Ma) (V : Mc.Val m) (i o s : Int) (R : Option Addr) (n c : Nat) (hi : m.i = i) (ho : m.o = o) (hn : m.r.length = n) (hs : 0 ≤ s ∧ s < n) (x : List Int) (hx : Mc.Wd m x) (X : Option Addr) (k d : Nat) (hk : x.length = k) (hle : k ≤ 256) (w : World) (he : E w) (hr : RdR w R m.r) (hw : Rd w X x) :
    Calls Try.prog 22 #[.agg #[.int .i64 i, .int .i64 o, .slice R n c], .int .i64 s, .slice X k d] w fun e w' => ∃ B, e = .returned (.tuple #[.slice B k k, .int .i64 0]) ∧ Rd w' B (Mc.run m s x) ∧ Below w.heap.size w w' := by
  obtain ⟨mi, mo, mr⟩ := m
  subst hi ho hn hk
  have hr6 := V.r1
  simp only at hr6
  refine (P.run mi mo s mr x R X mr.length c x.length d w he hr hw rfl (by omega) (fun row hrow => by have := V.len row hrow; have := V.i1; simp only at *; omega) rfl (by omega)).mono ?_
  rw [Mc.runE_ok V hs hx hle, Mc.runV_ok V hs hx hle]
  rintro e w' ⟨B, j, rfl, hj, hrd, hb⟩
  have : j = x.length := by rw [← hj.out, Mc.run_len]
  subst this
  exact ⟨B, rfl, hrd, hb⟩
theorem pafter_ok {E : World → Prop} (P : Pm E) (m : Ma) (V : Mc.Val m) (i o s : Int) (R : Option Addr) (n c : Nat) (hi : m.i = i) (ho : m.o = o) (hn : m.r.length = n) (hs : 0 ≤ s ∧ s < n) (x : List Int) (hx : Mc.Wd m x) (X : Option Addr) (k d : Nat) (hk : x.length = k) (hle : k ≤ 256) (w : World) (he : E w) (hr : RdR w R m.r) (hw : Rd w X x) :
    Calls Try.prog 23 #[.agg #[.int .i64 i, .int .i64 o, .slice R n c], .int .i64 s, .slice X k d] w fun e w' => e = .returned (.tuple #[.int .i64 (Mc.aft m s x), .int .i64 0]) ∧ Below w.heap.size w w' := by
  obtain ⟨mi, mo, mr⟩ := m
  subst hi ho hn hk
  have hr6 := V.r1
  simp only at hr6
  refine (P.after mi mo s mr x R X mr.length c x.length d w he hr hw rfl (by omega) (fun row hrow => by have := V.len row hrow; have := V.i1; simp only at *; omega) rfl (by omega)).mono ?_
  rw [Mc.runE_ok V hs hx hle, Mc.aftV_ok V hs hx hle]
  rintro e w' ⟨rfl, hb⟩
  exact ⟨rfl, hb⟩
theorem rjoin_at (A B : Option Addr) (n c k d : Nat) (x y : List Int) (w : World) (hx : Rd w A x) (hy : Rd w B y) (hn : x.length = n) (hk : y.length = k) (hle : n + k ≤ 65536) :
    Calls Try.prog 33 #[.slice A n c, .slice B k d] w fun e w' => ∃ C q, e = .returned (.slice C (n + k) q) ∧ Rd w' C (x ++ y) ∧ Below w.heap.size w w' := by
  subst hn hk
  refine (join_any A B c d x y w hx hy hle).mono ?_
  rintro e w' ⟨C, q, rfl, hr, _, hb⟩
  exact ⟨C, q, by rw [List.length_append], hr, hb⟩
theorem same_yes (A B : Option Addr) (n c d : Nat) (x : List Int) (w : World) (hx : Rd w A x) (hy : Rd w B x) (hn : x.length = n) (hm : n ≤ 9223372036854775807) :
    Calls Try.prog 34 #[.slice A n c, .slice B n d] w fun e w' => e = .returned (.bool true) ∧ Below w.heap.size w w' := by
  subst hn
  have := same_any A B c d x x w hx hy hm
  rwa [M.same_yes rfl] at this
theorem Rd.pre {w : World} {A : Option Addr} {x y : List Int} (h : Rd w A (x ++ y)) : Rd w A x := fun hp => by
  obtain ⟨b, off, e, hb, hc⟩ := h (by rw [List.length_append]; omega)
  refine ⟨b, off, e, hb, fun k hk => ?_⟩
  rw [hc k (by rw [List.length_append]; omega), List.getElem?_append_left hk]
theorem Rd.suf {w : World} {b off : Nat} {x y : List Int} (h : Rd w (some ⟨b, off, none⟩) (x ++ y)) : Rd w (some ⟨b, off + x.length, none⟩) y := fun hp => by
  obtain ⟨b', off', e, hb, hc⟩ := h (by rw [List.length_append]; omega)
  injection e with e
  injection e with e1 e2
  subst e1 e2
  refine ⟨_, _, rfl, hb, fun k hk => ?_⟩
  have := hc (x.length + k) (by rw [List.length_append]; omega)
  rw [List.getElem?_append_right (by omega), Nat.add_sub_cancel_left] at this
  rw [Nat.add_assoc]
  exact this
theorem Rd.sufO {w : World} {A : Option Addr} {x y : List Int} (h : Rd w A (x ++ y)) : Rd w (Option.map (fun a => a.add x.length) A) y := by
  by_cases hp : 0 < y.length
  case neg => exact fun h0 => absurd h0 hp
  obtain ⟨b, off, rfl, _, _⟩ := h (by rw [List.length_append]; omega)
  have := h.suf
  show Rd w (some ((⟨b, off, none⟩ : Addr).add x.length)) y
  rw [Addr.add_lit]
  exact this
theorem Rd.none_ {w : World} {A : Option Addr} {x : List Int} (h : x.length = 0) : Rd w A x := fun hp => by omega
namespace Mc
theorem Wd.app {m : Ma} {u v : List Int} (h1 : Wd m u) (h2 : Wd m v) : Wd m (u ++ v) := fun c hc => by
  rcases List.mem_append.1 hc with h | h
  · exact h1 c h
  · exact h2 c h
end Mc
end Go.Proofs.Ytiohfflkolopeaa
