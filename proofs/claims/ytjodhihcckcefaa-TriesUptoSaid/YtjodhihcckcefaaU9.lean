/-
  Contracts: Sort, Prefixes, Steps; lists of words that a call builds; Clip. No statement is proved here.
-/
import Derived.Test.YtjodhihcckcefaaU8
namespace Go.Proofs.Ytjodhihcckcefaa
open Go.RowKit Go.Maps

open Classical in
/-- An error, or the limit of the list that comes out. -/
noncomputable def gE (E : Int) (S : List (List Int)) (n : Int) : Int := if E ≠ 0 then E else if M.Lv S n then 0 else 3
theorem gE_err {E : Int} {S : List (List Int)} {n : Int} (h : E ≠ 0) : gE E S n = E := by unfold gE; rw [if_pos h]
theorem gE_ok {S : List (List Int)} {n : Int} : (gE 0 S n = 0 ∧ M.Lv S n) ∨ (gE 0 S n = 3 ∧ ¬ M.Lv S n) := by
  unfold gE
  rw [if_neg (by decide)]
  by_cases h : M.Lv S n
  · rw [if_pos h]; exact Or.inl ⟨rfl, h⟩
  · rw [if_neg h]; exact Or.inr ⟨rfl, h⟩
theorem okL_err {R : Int} {S : List (List Int)} (h : R ≠ 0) : okL R S = [] := by unfold okL; rw [if_neg h]
theorem okL_ok {S : List (List Int)} : okL 0 S = S := by unfold okL; rw [if_pos rfl]
theorem cw_by {rows : List (List Int)} {n : Int} (h : M.cwE rows n = 0) : rows.length ≤ 4096 ∧ ∀ x ∈ rows, M.By x ∧ x.length ≤ 1000 := by
  unfold M.cwE at h
  split at h
  · cases h
  · split at h
    · cases h
    · split at h
      · cases h
      · refine ⟨by omega, fun x hx => ?_⟩
        have h1 := M.ferr_zero.1 h x hx
        exact ⟨M.By.of_check h1, by have := (M.check_zero_u h1).2.2.1; omega⟩
theorem ch_by {rows : List (List Int)} {n : Int} (h : M.chE rows n = 0) : rows.length ≤ 4096 ∧ ∀ x ∈ rows, M.By x ∧ x.length ≤ 1000 := by
  have hv := M.chE_zero.1 h
  refine ⟨hv.len, fun x hx => ?_⟩
  have h1 := hv.ck x hx
  exact ⟨M.By.of_check h1, by have := (M.check_zero_u h1).2.2.1; omega⟩
theorem inF_some {l : List (List Int)} {x : List Int} : (inF l x).isSome = true ↔ x ∈ l := by
  unfold inF
  by_cases h : x ∈ l
  · rw [if_pos h]; simp [h]
  · rw [if_neg h]; simp [h]
theorem Lst.after {w w1 w' : World} {l : List (List Int)} {R : Int} {A : Option Addr} {q : Nat} (hb : Below w.heap.size w w1) (hq : q = l.length) (hx : RdX w' A l) (hb2 : Below w1.heap.size w1 w') : Lst w l R (.returned (.tuple #[.slice A q q, .int .i64 R])) w' := ⟨A, q, rfl, hq, hx, below_next hb hb2⟩
set_option maxRecDepth 100000 in
set_option maxHeartbeats 1000000 in
theorem sort_any (L : Option Addr) (c N : Nat) (rows S : List (List Int)) (n : Int) (w : World) (h : RdS w L rows) (hN : rows.length = N) (hm : N ≤ 9223372036854775807) (hS : M.asc S) (hmem : ∀ x, x ∈ S ↔ x ∈ rows) (R : Int) (hR : gE (M.cwE rows n) S n = R) :
    Calls Try.prog 22 #[.slice L N c, .int .i64 n] w (Lst w (okL R S) R) := by
  have C1 := Lib.hid (cwords_any L c N rows n w h hN hm)
  by_cases hz : M.cwE rows n = 0
  · have hby := cw_by hz
    rw [hz] at hR C1
    have HR := Lib.hid (hR ▸ gE_ok (S := S) (n := n))
    have CK := Lib.hid (fun w' (hb : Below w.heap.size w w') => keys_any L c N rows w' (h.below hb) hN (by omega) hby.2)
    have HM := Lib.hid (And.intro hS (fun x => (hmem x).trans inF_some.symm))
    have hN4 : N ≤ 4096 := by omega
    clear hR h hN hS hmem hz hby
    go_enter Try.func22, Try.ntmps22
    go_wp2_with fail
    refine C1.out.mono ?_
    rintro e w1 ⟨rfl, hb1⟩
    go_wp2_with fail
    refine (CK.out _ hb1).mono ?_
    rintro e w2 ⟨b, hb, rfl, hMp, hb2⟩
    have B2 := Lib.hid (below_next hb1 hb2)
    have HMp := Lib.hid hMp
    clear hb1 hb2 hMp
    go_wp2_with fail
    refine (gather_any b N (inF rows) S n R w2 HMp.out (by omega) HM.out.1 HM.out.2 HR.out).mono ?_
    rintro e w3 ⟨A, q, rfl, hq, hx, hb3⟩
    have HL := Lib.hid (Lst.after (R := R) B2.out hq hx hb3)
    clear hq hx hb3 B2
    go_wp2
    go_ret2
    exact HL.out
  · rw [gE_err hz] at hR
    rw [hR] at C1 hz
    have hz1 : (R != 0) = true := by simpa using hz
    rw [okL_err hz]
    clear hR h hN hS hmem hz
    go_enter Try.func22, Try.ntmps22
    go_wp2_with fail
    refine C1.out.mono ?_
    rintro e w1 ⟨rfl, hb1⟩
    go_wp2
    go_ret2
    exact Lst.no hb1
set_option maxRecDepth 100000 in
set_option maxHeartbeats 1000000 in
theorem tpre_any (L : Option Addr) (c N : Nat) (rows S : List (List Int)) (n : Int) (w : World) (h : RdS w L rows) (hN : rows.length = N) (hm : N ≤ 9223372036854775807) (hS : M.asc S) (hmem : ∀ x, x ∈ S ↔ ∃ y ∈ rows, x <+: y) (R : Int) (hR : gE (M.chE rows n) S n = R) :
    Calls Try.prog 28 #[.slice L N c, .int .i64 n] w (Lst w (okL R S) R) := by
  have C1 := Lib.hid (tcheck_any L c N rows n w h hN hm)
  by_cases hz : M.chE rows n = 0
  · have hby := ch_by hz
    rw [hz] at hR C1
    have HR := Lib.hid (hR ▸ gE_ok (S := S) (n := n))
    have CK := Lib.hid (fun w' (hb : Below w.heap.size w w') => prefixes_any L c N rows w' (h.below hb) hN (by omega) hby.2)
    have HM := Lib.hid (And.intro hS (fun x => (show x ∈ S ↔ (pfF rows x).isSome = true by rw [pfF_some, hmem, pfs_iff])))
    have hN4 : N ≤ 4096 := by omega
    clear hR h hN hS hmem hz hby
    go_enter Try.func28, Try.ntmps28
    go_wp2_with fail
    refine C1.out.mono ?_
    rintro e w1 ⟨rfl, hb1⟩
    go_wp2_with fail
    refine (CK.out _ hb1).mono ?_
    rintro e w2 ⟨b, hb, rfl, hMp, hb2⟩
    have B2 := Lib.hid (below_next hb1 hb2)
    have HMp := Lib.hid hMp
    clear hb1 hb2 hMp
    go_wp2_with fail
    refine (gather_any b (N * 1001) (pfF rows) S n R w2 HMp.out (by omega) HM.out.1 HM.out.2 HR.out).mono ?_
    rintro e w3 ⟨A, q, rfl, hq, hx, hb3⟩
    have HL := Lib.hid (Lst.after (R := R) B2.out hq hx hb3)
    clear hq hx hb3 B2
    go_wp2
    go_ret2
    exact HL.out
  · rw [gE_err hz] at hR
    rw [hR] at C1 hz
    have hz1 : (R != 0) = true := by simpa using hz
    rw [okL_err hz]
    clear hR h hN hS hmem hz
    go_enter Try.func28, Try.ntmps28
    go_wp2_with fail
    refine C1.out.mono ?_
    rintro e w1 ⟨rfl, hb1⟩
    go_wp2
    go_ret2
    exact Lst.no hb1
set_option maxRecDepth 100000 in
set_option maxHeartbeats 1000000 in
theorem steps_any (L : Option Addr) (c N : Nat) (rows : List (List Int)) (n : Int) (w : World) (h : RdS w L rows) (hN : rows.length = N) (hm : N ≤ 9223372036854775807) (R : Int) (hR : M.chE rows n = R) :
    Calls Try.prog 17 #[.slice L N c, .int .i64 n] w fun e w' => e = .returned (.tuple #[.int .i64 (if R = 0 then (M.total rows : Int) else 0), .int .i64 R]) ∧ Below w.heap.size w w' := by
  have C1 := Lib.hid (tcheck_any L c N rows n w h hN hm)
  by_cases hz : M.chE rows n = 0
  · have hv := M.chE_zero.1 hz
    rw [hz] at hR C1
    have CS := Lib.hid (fun w' (hb : Below w.heap.size w w') => symbols_any L c N rows w' (h.below hb) hN (by have := hv.len; omega) (fun x hx => by have := ((ch_by hz).2 x hx).2; omega))
    obtain rfl := hR
    rw [if_pos rfl]
    clear h hN hz hv
    go_enter Try.func17, Try.ntmps17
    go_wp2_with fail
    refine C1.out.mono ?_
    rintro e w1 ⟨rfl, hb1⟩
    go_wp2_with fail
    refine (CS.out _ hb1).mono ?_
    rintro e w2 ⟨rfl, rfl⟩
    go_wp2
    go_ret2
    exact ⟨rfl, hb1⟩
  · rw [hR] at C1 hz
    have hz1 : (R != 0) = true := by simpa using hz
    rw [if_neg hz]
    clear hR h hN hz
    go_enter Try.func17, Try.ntmps17
    go_wp2_with fail
    refine C1.out.mono ?_
    rintro e w1 ⟨rfl, hb1⟩
    go_wp2
    go_ret2
    exact ⟨rfl, hb1⟩
/-! ### Lists of words that a call builds -/
/-- A word that keeps as long as only blocks of words from base on are turned. -/
def RdK (w : World) (base : Nat) (A : Option Addr) (x : List Int) : Prop :=
  0 < x.length → ∃ b off, A = some ⟨b, off, none⟩ ∧ b < w.heap.size ∧ (b < base ∨ ∃ cs, w.heap[b]? = some (.cells cs 3 (0, 0))) ∧ ∀ k, k < x.length → w.cell? ⟨b, off + k, none⟩ = some (.int .i64 (x[k]?.getD 0))
section
variable {w w' : World} {base : Nat} {A : Option Addr} {x : List Int}
theorem RdK.rd (h : RdK w base A x) : Rd w A x := fun hp => by
  obtain ⟨b, off, e, h1, _, h3⟩ := h hp
  exact ⟨b, off, e, h1, h3⟩
theorem RdK.kept {row : Option Nat} (h : RdK w base A x) (hg : w.grownBy w' row) (hrow : ∀ r, row = some r → base ≤ r ∧ ∃ cs, w.heap[r]? = some (.cells cs 23 (0, 0))) : RdK w' base A x := fun hp => by
  obtain ⟨b, off, e, h1, h2, h3⟩ := h hp
  have hne : some b ≠ row := fun e1 => by
    obtain ⟨h4, cs, h5⟩ := hrow b e1.symm
    rcases h2 with h2 | ⟨cs2, h2⟩
    · omega
    · rw [h2] at h5
      simp at h5
  have hb := hg.block b h1 hne
  refine ⟨b, off, e, by have := hg.size; omega, ?_, fun k hk => ?_⟩
  · rcases h2 with h2 | ⟨cs2, h2⟩
    · exact Or.inl h2
    · exact Or.inr ⟨cs2, hb.trans h2⟩
  · rw [World.cell?_of_block (w := w) (a := ⟨b, off + k, none⟩) hb]
    exact h3 k hk
theorem RdK.below (h : RdK w base A x) (hb : Below w.heap.size w w') : RdK w' base A x := fun hp => by
  obtain ⟨b, off, e, h1, h2, h3⟩ := h hp
  refine ⟨b, off, e, by have := hb.size; omega, ?_, fun k hk => ((bcell hb).1 _ _ h1).trans (h3 k hk)⟩
  rcases h2 with h2 | ⟨cs2, h2⟩
  · exact Or.inl h2
  · exact Or.inr ⟨cs2, (hb.block b h1).trans h2⟩
theorem RdK.old {w0 : World} (h : Rd w0 A x) (hb : Below base w0 w) (hB : w0.heap.size ≤ base) (hz : w0.heap.size ≤ w.heap.size) : RdK w base A x := fun hp => by
  obtain ⟨b, off, e, h1, h3⟩ := h hp
  refine ⟨b, off, e, by omega, Or.inl (by omega), fun k hk => ?_⟩
  rw [World.cell?_of_block (w := w0) (a := ⟨b, off + k, none⟩) (hb.block b (by omega))]
  exact h3 k hk
theorem RdK.blk {g : Nat} (h : Blk w g x) : RdK w base (some ⟨g, 0, none⟩) x := fun hp => by
  obtain ⟨b, off, e, h1, h3⟩ := h.rd hp
  injection e with e
  injection e with e1 e2 _
  subst e1 e2
  exact ⟨g, 0, rfl, h1, Or.inr ⟨_, h⟩, h3⟩
end
/-- A list of words that a call builds by appending; ex: each word without spare room. -/
def OwL (ex : Bool) (w : World) (base : Nat) (v : Value) (l : List (List Int)) : Prop :=
  ∃ xs : List Value, w.ownsRow base 23 1 v l.length xs ∧ ∀ (k : Nat) (x : List Int), l[k]? = some x → ∃ A c, xs[k]? = some (.slice A x.length c) ∧ RdK w base A x ∧ (ex = true → c = x.length)
section
variable {ex : Bool} {w w' : World} {base : Nat} {v : Value} {l : List (List Int)}
theorem OwL.nil_ (w : World) (base : Nat) : OwL ex w base (.slice none 0 0) [] := ⟨[], World.ownsRow_nil _ _ _ _, fun k x h => by simp at h⟩
theorem OwL.row (h : OwL ex w base v l) : ∀ r, v.ownBlock = some r → base ≤ r ∧ ∃ cs, w.heap[r]? = some (.cells cs 23 (0, 0)) := fun r hr => by
  obtain ⟨xs, h1, _⟩ := h
  rcases h1.2 with ⟨rfl, _⟩ | ⟨g, cap, cur, rfl, h2, h3, _⟩
  · cases hr
  · simp [Value.ownBlock] at hr
    subst hr
    exact ⟨h2, cur, h3⟩
theorem OwL.below (h : OwL ex w base v l) (hb : Below w.heap.size w w') : OwL ex w' base v l := by
  obtain ⟨xs, h1, h2⟩ := h
  refine ⟨xs, h1.kept (row := none) ⟨hb.os, hb.tape, hb.output, hb.size, fun b hl _ => hb.block b hl⟩ ?_, fun k x hk => ?_⟩
  · cases hv : v.ownBlock with
    | none => exact Or.inl rfl
    | some r => exact Or.inr (by simp)
  · obtain ⟨A, c, h3, h4, h5⟩ := h2 k x hk
    exact ⟨A, c, h3, h4.below hb, h5⟩
theorem OwL.form (h : OwL ex w base v l) : ∃ A c, v = .slice A l.length c ∧ l.length ≤ c ∧ (l = [] → A = none ∧ c = 0 ∨ True) := by
  obtain ⟨xs, h1, _⟩ := h
  rcases h1.2 with ⟨rfl, h0⟩ | ⟨g, cap, cur, rfl, h2, h3, h4, _⟩
  · exact ⟨none, 0, by rw [h0], by omega, fun _ => Or.inr trivial⟩
  · exact ⟨_, cap, rfl, h4, fun _ => Or.inr trivial⟩
theorem OwL.rdx {A : Option Addr} {n c : Nat} (h : OwL true w base (.slice A n c) l) : RdX w A l := fun hp => by
  obtain ⟨xs, h1, h2⟩ := h
  rcases h1.2 with ⟨_, h0⟩ | ⟨g, cap, cur, e, h3, h4, _⟩
  · omega
  · injection e with e _ _
    subst e
    refine ⟨g, 0, rfl, heap_ltT h4, fun k hk => ?_⟩
    obtain ⟨B, c, h5, h6, h7⟩ := h2 k _ (M.row_at hk)
    have := h1.cells (g := g) rfl k _ h5
    rw [Addr.add_lit] at this
    rw [h7 rfl] at this
    exact ⟨B, this, h6.rd⟩
theorem OwL.rds {A : Option Addr} {n c : Nat} (h : OwL ex w base (.slice A n c) l) : RdS w A l := fun hp => by
  obtain ⟨xs, h1, h2⟩ := h
  rcases h1.2 with ⟨_, h0⟩ | ⟨g, cap, cur, e, h3, h4, _⟩
  · omega
  · injection e with e _ _
    subst e
    refine ⟨g, 0, rfl, heap_ltT h4, fun k hk => ?_⟩
    obtain ⟨B, c, h5, h6, h7⟩ := h2 k _ (M.row_at hk)
    have := h1.cells (g := g) rfl k _ h5
    rw [Addr.add_lit] at this
    exact ⟨B, c, this, h6.rd⟩
end
/-- append(l, w): at the operation, the new word lying in a block of its own. -/
theorem wpList_append_w (wr : World) {ops : Array Oper} {rest : List Oper} {o : Oper} {a : Act} {Q : Exit → Act → World → Prop} {ex : Bool} {B n c : Nat} {v : Value} {l : List (List Int)} {A : Option Addr} {x : List Int} {w0 : World}
    (hown : OwL ex wr B v l) (hlen : l.length ≤ 1000000) (hx : RdK wr B A x) (hn : x.length = n) (hc : ex = true → c = n) (hb0 : Below B w0 wr) (hB : B ≤ wr.heap.size) (hgd : o.guard = none) (s z : Operand)
    (ho : o.op = .call { callee := .builtin .append, args := #[s, z], argTypes := #[22, 22] }) (hs : a.eval s = v) (hz : a.eval z = .slice (some ⟨wr.heap.size, 0, none⟩) 1 1)
    (h : ∀ v1 w1, OwL ex w1 B v1 (l ++ [x]) → Below B w0 w1 → (wr.alloc (.cells #[.slice A n c] 23)).grownBy w1 v.ownBlock → wpList Try.prog ops Q rest (a.put o.dst v1) w1) :
    wpList Try.prog ops Q (o :: rest) a (wr.alloc (.cells #[.slice A n c] 23)) := by
  obtain ⟨i0, hi0, hI0, hI1, hI2⟩ := info_parts words_info
  have hrow := hown.row
  have hownA := hown.below ((Below.refl wr.heap.size wr).alloc (Nat.le_refl _) (.cells #[.slice A n c] 23))
  obtain ⟨xs, h1, h2⟩ := hownA
  have hxA := hx.below ((Below.refl wr.heap.size wr).alloc (Nat.le_refl _) (.cells #[.slice A n c] 23))
  have hbA := hb0.alloc hB (.cells #[.slice A n c] 23)
  have hxl : xs.length = l.length := by have := h1.1; omega
  refine wpList_append_own _ hgd s z 22 ho B 23 i0 (.slice none 0 0) 1 24 Try.underlying22 hi0 hI0 hI1 hI2 rfl (by decide) v l.length xs hs h1 ⟨wr.heap.size, 0, none⟩ 1 1 [.slice A n c] hz rfl ?_ ?_ ?_ ?_ ?_ ?_
  · intro j u hj
    rw [Addr.add_lit, World.cell?_alloc_at _ _ _ _ rfl]
    match j, hj with
    | 0, hj => simpa using hj
  · intro u hu
    simp at hu
    rw [hu]; rfl
  · unfold maxLen; omega
  · omega
  · simp; omega
  · intro v1 w1 h3 hg _
    have hrowA : ∀ r, v.ownBlock = some r → B ≤ r ∧ ∃ cs, (wr.alloc (.cells #[.slice A n c] 23)).heap[r]? = some (.cells cs 23 (0, 0)) := fun r hr => by
      obtain ⟨h4, cs, h5⟩ := hrow r hr
      exact ⟨h4, cs, (Below.heap_alloc _ _ r (heap_ltT h5)).trans h5⟩
    refine h v1 w1 ⟨_, by rw [List.length_append]; exact h3, fun k y hk => ?_⟩ (hbA.grown hg (by simp; omega) fun j hj => (hrow j hj).1) hg
    rcases Nat.lt_trichotomy k l.length with hj | hj | hj
    · rw [List.getElem?_append_left hj] at hk
      obtain ⟨C, d, h5, h6, h7⟩ := h2 k y hk
      exact ⟨C, d, by rw [List.getElem?_append_left (by omega)]; exact h5, h6.kept hg hrowA, h7⟩
    · subst hj
      rw [List.getElem?_append_right (Nat.le_refl _)] at hk
      simp at hk
      subst hk
      refine ⟨A, c, ?_, hxA.kept hg hrowA, fun he => by rw [hc he, hn]⟩
      rw [List.getElem?_append_right (by omega), hxl]
      simp [hn]
    · rw [List.getElem?_eq_none (by simp; omega)] at hk
      cases hk
set_option maxRecDepth 100000 in
theorem clip_any (A : Option Addr) (n c : Nat) (w : World) (hc : n ≤ c) : Calls Try.prog 76 #[.slice A n c] w fun e w' => e = .returned (.slice A n n) ∧ w' = w := by
  go_enter Try.func76, Try.ntmps76
  go_wp2
  go_ret
  exact ⟨rfl, rfl⟩
end Go.Proofs.Ytjodhihcckcefaa
