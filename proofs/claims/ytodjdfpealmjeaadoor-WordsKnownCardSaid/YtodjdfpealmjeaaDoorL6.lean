/-
  The walk of the law WordsRank.
-/
import Derived.Test.YtodjdfpealmjeaaDoorL4
import Derived.Test.YtodjdfpealmjeaaDoorCmpM
import Derived.Deep.RegionHeld3
namespace Go.Proofs.YtodjdfpealmjeaaDoor
open Go.RowKit

theorem sym_val {n : Int} (h : 1 ≤ n) (zs : List Int) : M.Val n (M.sym n zs) := fun z hz => by
  unfold M.sym at hz
  obtain ⟨y, _, rfl⟩ := List.mem_map.1 hz
  exact ⟨Int.emod_nonneg _ (by omega), Int.emod_lt_of_pos _ (by omega)⟩
theorem sym_len (n : Int) (zs : List Int) : (M.sym n zs).length ≤ 12 := by
  unfold M.sym
  rw [List.length_map, List.length_take]
  omega
theorem of_lit (A : Option Addr) (m c : Nat) (zs ws : List Int) (n : Int) (w : World) (h : Rd8 w A zs) (hm : zs.length = m) (h1 : 1 ≤ n) (h2 : n ≤ 16) (hb : m ≤ 9223372036854775807) (hw : M.sym n zs = ws) :
    Calls Tryd.prog 23 #[.agg #[.slice A m c], .int .i64 n] w fun e w' => ∃ B k d, e = .returned (.slice B k d) ∧ Hid (ws.length = k) ∧ k ≤ 12 ∧ Rd w' B ws ∧ Below w.heap.size w w' := by
  subst hm hw
  refine (of_any A c zs n w h h1 h2 hb).mono ?_
  rintro e w' ⟨B, d, rfl, h3, h4, h5⟩
  exact ⟨B, _, d, rfl, rfl, sym_len n zs, h3, h5⟩
theorem rrank_lit (A : Option Addr) (m c : Nat) (zs : List Int) (n r : Int) (w : World) (h : Rd w A zs) (hm : zs.length = m) (h1 : 1 ≤ n) (h2 : n ≤ 6) (hl : m ≤ 12) (hv : M.Val n zs) (hr : M.rk n zs = r) :
    Calls Tryd.prog 25 #[.slice A m c, .int .i64 n] w fun e w' => e = .returned (.int .i64 r) ∧ Below w.heap.size w w' := by
  subst hm hr
  exact rrank_any A c zs n w h h1 h2 hl hv
theorem same_lit (A B : Option Addr) (n m c d : Nat) (x y : List Int) (r : Bool) (w : World) (hx : Rd w A x) (hy : Rd w B y) (hn : x.length = n) (hm : y.length = m) (hb : n ≤ 1000000) (hr : M.same x y = r) :
    Calls Tryd.prog 26 #[.slice A n c, .slice B m d] w fun e w' => e = .returned (.bool r) ∧ Below w.heap.size w w' := by
  subst hn hm hr
  exact same_any A B c d x y w hx hy (by omega)
theorem next_at (A : Option Addr) (n c : Nat) (zs ys : List Int) (i : Int) (w : World) (h : Rd w A zs) (hn : zs.length = n) (hck : M.check zs i = 0) (hy : M.next i zs = ys) (hl : ys.length ≤ 256) :
    Calls Tryd.prog 16 #[.slice A n c, .int .i64 i] w fun e w' => ∃ B m, e = .returned (.tuple #[.slice B m m, .int .i64 0]) ∧ Hid (ys.length = m) ∧ m ≤ 256 ∧ Rd w' B ys ∧ Below w.heap.size w w' := by
  refine (next_lit A n c zs ys i w h hn hck hy hl).mono ?_
  rintro e w' ⟨B, rfl, h1, h2⟩
  exact ⟨B, _, rfl, rfl, hl, h1, h2⟩
/-- The rank of a short word over few inputs is small. -/
theorem rk_small {n : Int} (h1 : 1 ≤ n) (h2 : n ≤ 6) {zs : List Int} (hl : zs.length ≤ 12) (hv : M.Val n zs) : 0 ≤ M.rk n zs ∧ M.rk n zs ≤ 182849716224 := by
  have := M.rrF_bound h1 h2 hl hv zs.length (Nat.le_refl _)
  rw [M.rrF_rk n _ zs rfl] at this
  omega

set_option maxRecDepth 100000 in
set_option maxHeartbeats 3200000 in
theorem wordsRank_walk (A B : Option Addr) (ca cb : Nat) (xs ys : List Int) (u : Int) (w : World) (he : Env w) (hx : Rd8 w A xs) (hy : Rd8 w B ys) (hu0 : 0 ≤ u) (hu1 : u ≤ 255) (hbx : xs.length ≤ 9223372036854775807) (hby : ys.length ≤ 9223372036854775807) :
    Calls Tryd.prog 7 #[.agg #[.slice A xs.length ca], .agg #[.slice B ys.length cb], .int .u8 u] w fun e w' => e = .returned (.bool true) ∧ Below w.heap.size w w' := by
  obtain ⟨n, hn⟩ : ∃ n, 1 + u % 6 = n := ⟨_, rfl⟩
  have h1 : 1 ≤ n := by omega
  have h2 : n ≤ 6 := by omega
  obtain ⟨ws, hws⟩ : ∃ l, M.sym n xs = l := ⟨_, rfl⟩
  obtain ⟨vs, hvs⟩ : ∃ l, M.sym n ys = l := ⟨_, rfl⟩
  have vw : M.Val n ws := by rw [← hws]; exact sym_val h1 xs
  have vv : M.Val n vs := by rw [← hvs]; exact sym_val h1 ys
  have lw : ws.length ≤ 12 := by rw [← hws]; exact sym_len n xs
  have lv : vs.length ≤ 12 := by rw [← hvs]; exact sym_len n ys
  have kw := M.check_mk (zs := ws) (n := n) (by omega) h1 (by omega) vw
  have kv := M.check_mk (zs := vs) (n := n) (by omega) h1 (by omega) vv
  obtain ⟨ra, hra⟩ : ∃ r, M.rk n ws = r := ⟨_, rfl⟩
  obtain ⟨rb, hrb⟩ : ∃ r, M.rk n vs = r := ⟨_, rfl⟩
  have sa := rk_small h1 h2 lw vw
  have sb := rk_small h1 h2 lv vv
  rw [hra] at sa
  rw [hrb] at sb
  obtain ⟨sa1, sa2⟩ := sa
  obtain ⟨sb1, sb2⟩ := sb
  obtain ⟨ns, hns⟩ : ∃ l, M.next n ws = l := ⟨_, rfl⟩
  obtain ⟨nv, nr, nl1, nl2⟩ := M.next_val h1 _ ws rfl vw
  rw [hns] at nv nr nl1 nl2
  rw [hra] at nr
  have kn := M.check_mk (zs := ns) (n := n) (by omega) h1 (by omega) nv
  have ln : ns.length ≤ 256 := by omega
  have hcmp := M.rk_cmp h1 vw vv
  rw [hra, hrb] at hcmp
  have hsplit : (ra < rb ∧ M.cmp ws vs = -1 ∧ M.same ws vs = false) ∨ (ra = rb ∧ M.cmp ws vs = 0 ∧ M.same ws vs = true) ∨ (rb < ra ∧ M.cmp ws vs = 1 ∧ M.same ws vs = false) := by
    rcases Int.lt_trichotomy ra rb with h | h | h
    · rw [M.sgn_lt h] at hcmp
      exact .inl ⟨h, hcmp, M.same_no (fun e => by rw [M.cmp_zero_iff.2 e] at hcmp; omega)⟩
    · rw [M.sgn_eq h] at hcmp
      exact .inr (.inl ⟨h, hcmp, M.same_yes (M.cmp_zero_iff.1 hcmp)⟩)
    · rw [M.sgn_gt h] at hcmp
      exact .inr (.inr ⟨h, hcmp, M.same_no (fun e => by rw [M.cmp_zero_iff.2 e] at hcmp; omega)⟩)
  have HN := Lib.hid hn
  have HWS := Lib.hid hws
  have HVS := Lib.hid hvs
  have HKW := Lib.hid kw
  have HKV := Lib.hid kv
  have HRA := Lib.hid hra
  have HRB := Lib.hid hrb
  have HNS := Lib.hid hns
  have HNR := Lib.hid nr
  have HKN := Lib.hid kn
  have VW := Lib.hid vw
  clear hn hws hvs kw kv hra hrb hns nr kn hcmp vw vv nv nl1 nl2 lw lv
  rcases hsplit with ⟨c1, c2, c3⟩ | ⟨c1, c2, c3⟩ | ⟨c1, c2, c3⟩
  all_goals
    have C2 := Lib.hid c2
    have C3 := Lib.hid c3
    clear c2 c3
  all_goals
    first
      | subst c1
      | skip
    go_enter Tryd.func7, Tryd.ntmps7
    have q1 : ((w.alloc (.cells #[.slice A xs.length ca] 41)).alloc (.cells #[.slice B ys.length cb] 41)).cell? ⟨w.heap.size, 0, none⟩ = some (.slice A xs.length ca) := by
      rw [World.cell?_alloc_past _ _ _ (by simp), World.cell?_alloc_at _ _ _ _ rfl]; rfl
    have q2 : ((w.alloc (.cells #[.slice A xs.length ca] 41)).alloc (.cells #[.slice B ys.length cb] 41)).cell? ⟨w.heap.size + 1, 0, none⟩ = some (.slice B ys.length cb) := by
      rw [World.cell?_alloc_at _ _ _ _ (by simp)]; rfl
    have q3 : Below w.heap.size w ((w.alloc (.cells #[.slice A xs.length ca] 41)).alloc (.cells #[.slice B ys.length cb] 41)) := ((Below.refl _ _).alloc (Nat.le_refl _) _).alloc (by simp) _
    have q4 : w.heap.size + 2 ≤ ((w.alloc (.cells #[.slice A xs.length ca] 41)).alloc (.cells #[.slice B ys.length cb] 41)).heap.size := by simp
    go_wp2_with fail
    obtain ⟨w0, hw0⟩ : ∃ w0, (w.alloc (.cells #[.slice A xs.length ca] 41)).alloc (.cells #[.slice B ys.length cb] 41) = w0 := ⟨_, rfl⟩
    rw [hw0] at q1 q2 q3 q4 ⊢
    clear hw0
    rw [HN.out]
    have q5 : Below w.heap.size w w0.drew := q3.drew
    have h16 : n ≤ 16 := by omega
    have X1 := Lib.hid (hx.below q5)
    go_region_held3 (fun w' => w'.cell? ⟨w.heap.size, 0, none⟩ = some (.slice A xs.length ca) ∧ w'.cell? ⟨w.heap.size + 1, 0, none⟩ = some (.slice B ys.length cb)) (first | exact ⟨g1, g2⟩ | exact ⟨e1, e2⟩ | go_keep)
      (first
        | (go_at_call 23
           (with_reducible refine (of_lit A _ _ xs ws _ _ X1.out rfl h1 h16 hbx HWS.out).mono ?_)
           rintro e w1 ⟨B1, k1, d1, rfl, hk1, hk1b, hr1, hb1⟩
           have g1 : w1.cell? ⟨w.heap.size, 0, none⟩ = some (.slice A xs.length ca) := (hb1.cell (p := ⟨w.heap.size, 0, none⟩) (by show w.heap.size < w0.heap.size; omega)).trans q1
           have g2 : w1.cell? ⟨w.heap.size + 1, 0, none⟩ = some (.slice B ys.length cb) := (hb1.cell (p := ⟨w.heap.size + 1, 0, none⟩) (by show w.heap.size + 1 < w0.heap.size; omega)).trans q2
           have q6 := below_next q5 hb1
           have X2 := Lib.hid (hy.below q6))
        | (go_at_call 23
           (with_reducible refine (of_lit B _ _ ys vs _ _ X2.out rfl h1 h16 hby HVS.out).mono ?_)
           rintro e w2 ⟨B2, k2, d2, rfl, hk2, hk2b, hr2, hb2⟩
           have e1 : w2.cell? ⟨w.heap.size, 0, none⟩ = some (.slice A xs.length ca) := (hb2.cell (p := ⟨w.heap.size, 0, none⟩) (by have := hb1.size; have : w0.drew.heap.size = w0.heap.size := rfl; show w.heap.size < w1.heap.size; omega)).trans g1
           have e2 : w2.cell? ⟨w.heap.size + 1, 0, none⟩ = some (.slice B ys.length cb) := (hb2.cell (p := ⟨w.heap.size + 1, 0, none⟩) (by have := hb1.size; have : w0.drew.heap.size = w0.heap.size := rfl; show w.heap.size + 1 < w1.heap.size; omega)).trans g2))
    have h0 : St w w2 [(B1, ws), (B2, vs)] := St.put (St.put (show St w w2 [] from ⟨below_next q6 hb2, fun _ h => by cases h⟩) hr2) (hr1.below hb2)
    clear q1 q2 q3 q4 q5 q6 X1 X2 hr1 hr2 hb1 hb2 g1 g2 e1 e2 hx hy
    go_wp2_with fail
    refine (rank_lit _ _ _ ws _ ra _ (h0.rd 0 rfl) hk1.out HKW.out HRA.out (by omega)).mono ?_
    rintro e w3 ⟨rfl, hb3⟩
    have h3 := h0.next hb3
    clear h0 hb3
    go_wp2_with fail
    refine (rank_lit _ _ _ vs _ _ _ (h3.rd 1 rfl) hk2.out HKV.out HRB.out (by omega)).mono ?_
    rintro e w4 ⟨rfl, hb4⟩
    have h4 := h3.next hb4
    clear h3 hb4
    go_wp2_with fail
    refine (rrank_lit _ _ _ ws _ ra _ (h4.rd 0 rfl) hk1.out h1 h2 hk1b VW.out HRA.out).mono ?_
    rintro e w5 ⟨rfl, hb5⟩
    have h5 := h4.next hb5
    clear h4 hb5
    go_wp2_with fail
    refine (rcmp_lit _ _ _ _ _ _ ws vs _ _ (h5.rd 0 rfl) (h5.rd 1 rfl) hk1.out hk2.out (by omega) C2.out).mono ?_
    rintro e w6 ⟨rfl, hb6⟩
    have h6 := h5.next hb6
    clear h5 hb6
    go_wp2_with fail
    refine (same_lit _ _ _ _ _ _ ws vs _ _ (h6.rd 0 rfl) (h6.rd 1 rfl) hk1.out hk2.out (by omega) C3.out).mono ?_
    rintro e w7 ⟨rfl, hb7⟩
    have h7 := h6.next hb7
    clear h6 hb7
    first
      | (have heq : (ra == rb) = false := by (simp; omega))
      | skip
    go_wp2_with fail
    refine (at_word ws ra _ _ HKW.out HRA.out (by omega)).mono ?_
    rintro e w8 ⟨B8, m8, rfl, hm8, hm8b, hr8, hb8⟩
    have h8 := (h7.next hb8).put hr8
    clear h7 hr8 hb8
    go_wp2_with fail
    refine (next_at _ _ _ ws ns _ _ (h8.rd 1 rfl) hk1.out HKW.out HNS.out ln).mono ?_
    rintro e w9 ⟨B9, m9, rfl, hm9, hm9b, hr9, hb9⟩
    have h9 := (h8.next hb9).put hr9
    clear h8 hr9 hb9
    go_wp2_with fail
    refine (at_word ns (ra + 1) _ _ HKN.out HNR.out (by omega)).mono ?_
    rintro e w10 ⟨B10, m10, rfl, hm10, hm10b, hr10, hb10⟩
    have h10 := (h9.next hb10).put hr10
    clear h9 hr10 hb10
    go_wp2_with fail
    refine (word_lit2 _ _ _ _ _ ws _ _ (h10.rd 2 rfl) (h10.rd 3 rfl) hm8.out hk1.out (by omega)).mono ?_
    rintro e w11 ⟨rfl, hb11⟩
    have h11 := h10.next hb11
    clear h10 hb11
    go_wp2_with fail
    refine (word_lit2 _ _ _ _ _ ns _ _ (h11.rd 0 rfl) (h11.rd 1 rfl) hm10.out hm9.out (by omega)).mono ?_
    rintro e w12 ⟨rfl, hb12⟩
    have h12 := h11.next hb12
    clear h11 hb12
    go_wp2_with fail
    refine (lives_any _ (h12.env he)).mono ?_
    rintro e w13 ⟨rfl, hb13⟩
    have h13 := h12.next hb13
    go_wp2
    go_ret
    exact ⟨rfl, h13.1⟩
end Go.Proofs.YtodjdfpealmjeaaDoor
