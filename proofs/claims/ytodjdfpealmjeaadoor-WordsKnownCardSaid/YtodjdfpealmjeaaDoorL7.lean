/-
  The walk of the law WordsNext.
-/
import Derived.Test.YtodjdfpealmjeaaDoorL6
import Derived.Test.YtodjdfpealmjeaaDoorNextM
namespace Go.Proofs.YtodjdfpealmjeaaDoor
open Go.RowKit

/-- What a function hands back that builds a list of its own. -/
def OwnB (w : World) (n : Nat) (zs : List Int) (e : Ending) (w' : World) : Prop := ∃ v, e = .returned v ∧ w'.ownsRow w.heap.size 3 1 v n (ints zs) ∧ Below w.heap.size w w'
set_option maxHeartbeats 400000 in
theorem times_own (n : Nat) (s : Int) (w : World) (hn : n ≤ 65536) :
    Calls Tryd.prog 24 #[.int .i64 n, .int .i64 s] w (OwnB w n (List.replicate n s)) := by
  obtain ⟨i0, hi0, hz0, hz1, hz2⟩ := info_parts int_info
  go_enter Tryd.func24, Tryd.ntmps24
  go_wp2
  go_loopw [5, 6] (fun v i wr => ∃ (k : Nat) (xs : List Int), k ≤ n ∧ i = .int .i64 k ∧ wr.ownsRow w.heap.size 3 1 v k (ints xs) ∧ Hid (xs = List.replicate k s) ∧ Below w.heap.size w wr) (fun _ i _ => n - (intOf i).toNat)
  case atStart => exact ⟨0, [], Nat.zero_le _, rfl, World.ownsRow_nil w _ _ _, rfl, Below.refl _ _⟩
  case round =>
    obtain ⟨k, xs, hk, rfl, hown, hxs, hbr⟩ := hrel
    have hsz := hbr.size
    by_cases hlt : k < n
    · go_wp2_with (at_builtin; refine wpList_append_own _ rfl _ _ 22 rfl w.heap.size 3 i0 (.int .i64 0) 1 8 Tryd.underlying22 hi0 hz0 hz1 hz2 rfl (by decide) _ _ _ rfl (hown.alloc _) ⟨wr.heap.size, 0, none⟩ 1 1 [.int .i64 s] rfl rfl ?c1 ?c2 ?c3 ?c4 ?c5 ?_)
      case c1 => exact (cell_one_new _ _ _)
      case c2 => intro u hu; simp at hu; subst hu; rfl
      case c3 => unfold maxLen; omega
      case c4 => omega
      case c5 => simp; omega
      intro v1 w1 hown1 hg1 _
      obtain ⟨hown2, hbr2⟩ := own_step hbr hsz hown hown1 hg1
      clear hown1 hg1 hown
      go_wp2
      go_roundw
      case rel => exact ⟨k + 1, _, by omega, by go_num, hown2, (by show _ = _; rw [hxs.out]; simp [List.replicate_succ']), hbr2⟩
      case measure => simp [intOf]; omega
    · have : k = n := by omega
      subst this
      go_wp2
      go_ret
      rw [← hxs.out]
      exact ⟨_, rfl, hown, hbr⟩

theorem times_own_lit (N s : Int) (n : Nat) (zs : List Int) (w : World) (hN : N = (n : Int)) (h0 : 0 < n) (hn : n ≤ 65536) (hz : List.replicate n s = zs) :
    Calls Tryd.prog 24 #[.int .i64 N, .int .i64 s] w fun e w' => ∃ g c, e = .returned (.slice (some ⟨g, 0, none⟩) n c) ∧ w.heap.size ≤ g ∧ w'.ownsRow w.heap.size 3 1 (.slice (some ⟨g, 0, none⟩) n c) n (ints zs) ∧ Below w.heap.size w w' := by
  subst hN hz
  refine (times_own n s w hn).mono ?_
  rintro e w' ⟨v, rfl, hown, hb⟩
  obtain ⟨g, c, rfl, h1, h2⟩ := hown.form h0
  exact ⟨g, c, rfl, h1, hown, hb⟩
theorem own_below {w w' : World} {base n : Nat} {v : Value} {xs : List Value} (h : w.ownsRow base 3 1 v n xs) (hb : Below w.heap.size w w') : w'.ownsRow base 3 1 v n xs :=
  h.kept (row := none) ⟨hb.os, hb.tape, hb.output, hb.size, fun k hk _ => hb.block k hk⟩ (by
    cases hv : v.ownBlock
    · exact .inl rfl
    · exact .inr (by simp))

set_option maxRecDepth 100000 in
set_option maxHeartbeats 6400000 in
theorem wordsNext_walk (A B : Option Addr) (ca cb : Nat) (xs ys : List Int) (u : Int) (w : World) (he : Env w) (hx : Rd8 w A xs) (hy : Rd8 w B ys) (hu0 : 0 ≤ u) (hu1 : u ≤ 255) (hbx : xs.length ≤ 9223372036854775807) (hby : ys.length ≤ 9223372036854775807) :
    Calls Tryd.prog 6 #[.agg #[.slice A xs.length ca], .int .u8 u, .agg #[.slice B ys.length cb]] w fun e w' => e = .returned (.bool true) ∧ Below w.heap.size w w' := by
  obtain ⟨n, hn⟩ : ∃ n, 1 + u % 16 = n := ⟨_, rfl⟩
  have h1 : 1 ≤ n := by omega
  have h16 : n ≤ 16 := by omega
  obtain ⟨ws, hws⟩ : ∃ l, M.sym n xs = l := ⟨_, rfl⟩
  obtain ⟨vs, hvs⟩ : ∃ l, M.sym n ys = l := ⟨_, rfl⟩
  have vw : M.Val n ws := by rw [← hws]; exact sym_val h1 xs
  have vv : M.Val n vs := by rw [← hvs]; exact sym_val h1 ys
  have lw : ws.length ≤ 12 := by rw [← hws]; exact sym_len n xs
  have lv : vs.length ≤ 12 := by rw [← hvs]; exact sym_len n ys
  have kw := M.check_mk (zs := ws) (n := n) h16 h1 (by omega) vw
  obtain ⟨ns, hns⟩ : ∃ l, M.next n ws = l := ⟨_, rfl⟩
  obtain ⟨nv, nr, nl1, nl2⟩ := M.next_val h1 _ ws rfl vw
  rw [hns] at nv nr nl1 nl2
  have kn := M.check_mk (zs := ns) (n := n) h16 h1 (by omega) nv
  have ln : ns.length ≤ 256 := by omega
  have hcn := M.cmp_next h1 vw nv nr
  obtain ⟨cs, hcs⟩ : ∃ c, M.cmp ws vs = c := ⟨_, rfl⟩
  obtain ⟨ds, hds⟩ : ∃ c, M.cmp vs ns = c := ⟨_, rfl⟩
  have hnb : cs = -1 → ds ≠ -1 := fun h => by rw [← hds]; exact M.no_between h1 vw vv nv nr (by rw [hcs]; exact h)
  obtain ⟨lg, hlg⟩ : ∃ l, List.replicate 256 (n - 1) = l := ⟨_, rfl⟩
  have lgl : lg.length = 256 := by rw [← hlg, List.length_replicate]
  have lgk := M.check_mk (zs := lg) (n := n) h16 h1 (by omega) (by rw [← hlg]; exact M.rep_val h1 256)
  have lgn : 256 < (M.next n lg).length := by
    rw [← hlg, M.next_max, List.length_replicate]
    omega
  obtain ⟨l0, hl0⟩ : ∃ l, M.three 200 55 (n - 1) 0 (n - 1) = l := ⟨_, rfl⟩
  have l0s : lg.set 200 0 = l0 := by rw [← hlg, ← hl0]; exact M.three_set 200 55 (n - 1) 0
  have l0l : l0.length = 256 := by rw [← hl0, M.three_len]
  have l0k := M.check_mk (zs := l0) (n := n) h16 h1 (by omega) (by rw [← hl0]; exact M.three_val h1 200 55)
  have hone : n = 1 → l0 = lg := fun h => by
    subst h
    rw [← hl0, ← hlg, ← M.three_set 200 55 (1 - 1) 0]
    rw [show ((1 : Int) - 1) = 0 by decide, List.set_replicate_self]
  obtain ⟨l1, hl1⟩ : ∃ l, M.three 200 55 (n - 1) 1 0 = l := ⟨_, rfl⟩
  have hmore : 2 ≤ n → M.next n l0 = l1 := fun h => by rw [← hl0, ← hl1]; exact M.three_next h 200 55
  have l1l : l1.length = 256 := by rw [← hl1, M.three_len]
  have at200 : l1[200]?.getD 0 = 1 := by rw [← hl1]; exact M.three_mid 200 55 (n - 1) 1 0
  have at255 : l1[255]?.getD 0 = 0 := by rw [← hl1]; exact M.three_high 200 55 255 (n - 1) 1 0 (by omega) (by omega)
  have at199 : l1[199]?.getD 0 = n - 1 := by rw [← hl1]; exact M.three_low 200 55 199 (n - 1) 1 0 (by omega)
  have lg200 : (ints lg)[200]? = some (.int .i64 (lg[200]?.getD 0)) := ints_at (by omega)
  have HN := Lib.hid hn
  have HWS := Lib.hid hws
  have HVS := Lib.hid hvs
  have HKW := Lib.hid kw
  have HNS := Lib.hid hns
  have HKN := Lib.hid kn
  have HCN := Lib.hid hcn
  have HCS := Lib.hid hcs
  have HDS := Lib.hid hds
  have HNB := Lib.hid hnb
  have HLG := Lib.hid hlg
  have LGL := Lib.hid lgl
  have LGK := Lib.hid lgk
  have LGN := Lib.hid lgn
  have L0S := Lib.hid l0s
  have L0L := Lib.hid l0l
  have L0K := Lib.hid l0k
  have HONE := Lib.hid hone
  have HMORE := Lib.hid hmore
  have L1L := Lib.hid l1l
  have A200 := Lib.hid at200
  have A255 := Lib.hid at255
  have A199 := Lib.hid at199
  have G200 := Lib.hid lg200
  clear hn hws hvs kw hns kn hcn hcs hds hnb hlg lgl lgk lgn hl0 l0s l0l l0k hone hl1 hmore l1l at200 at255 at199 lg200 vw vv nv nr nl1 nl2 lw lv
  go_enter Tryd.func6, Tryd.ntmps6
  have q1 : ((w.alloc (.cells #[.slice A xs.length ca] 41)).alloc (.cells #[.slice B ys.length cb] 41)).cell? ⟨w.heap.size, 0, none⟩ = some (.slice A xs.length ca) := by
    rw [World.cell?_alloc_past _ _ _ (by simp), World.cell?_alloc_at _ _ _ _ rfl]; rfl
  have q2 : ((w.alloc (.cells #[.slice A xs.length ca] 41)).alloc (.cells #[.slice B ys.length cb] 41)).cell? ⟨w.heap.size + 1, 0, none⟩ = some (.slice B ys.length cb) := by
    rw [World.cell?_alloc_at _ _ _ _ (by simp)]; rfl
  have q3 : Below w.heap.size w ((w.alloc (.cells #[.slice A xs.length ca] 41)).alloc (.cells #[.slice B ys.length cb] 41)) := ((Below.refl _ _).alloc (Nat.le_refl _) _).alloc (by simp) _
  have q4 : w.heap.size + 2 ≤ ((w.alloc (.cells #[.slice A xs.length ca] 41)).alloc (.cells #[.slice B ys.length cb] 41)).heap.size := by simp
  go_wp2_with fail
  obtain ⟨w0, hw0⟩ : ∃ w0, (w.alloc (.cells #[.slice A xs.length ca] 41)).alloc (.cells #[.slice B ys.length cb] 41) = w0 := ⟨_, rfl⟩
  rw [hw0] at q1 q2 q3 q4 ⊢
  clear hw0
  rw [HN.out]
  have q5 : Below w.heap.size w w0.drew := q3.drew
  have X1 := Lib.hid (hx.below q5)
  go_region_held3 (fun w' => w'.cell? ⟨w.heap.size, 0, none⟩ = some (.slice A xs.length ca) ∧ w'.cell? ⟨w.heap.size + 1, 0, none⟩ = some (.slice B ys.length cb)) (first | exact ⟨g1, g2⟩ | exact ⟨e1, e2⟩ | go_keep)
    (first
      | (go_at_call 23
         (with_reducible refine (of_lit A _ _ xs ws _ _ X1.out rfl h1 h16 hbx HWS.out).mono ?_)
         rintro e w1 ⟨B1, k1, d1, rfl, hk1, hk1b, hr1, hb1⟩
         have g1 : w1.cell? ⟨w.heap.size, 0, none⟩ = some (.slice A xs.length ca) := (hb1.cell (p := ⟨w.heap.size, 0, none⟩) (by show w.heap.size < w0.heap.size; omega)).trans q1
         have g2 : w1.cell? ⟨w.heap.size + 1, 0, none⟩ = some (.slice B ys.length cb) := (hb1.cell (p := ⟨w.heap.size + 1, 0, none⟩) (by show w.heap.size + 1 < w0.heap.size; omega)).trans q2
         have q6 := below_next q5 hb1
         have X2 := Lib.hid (hy.below q6))
      | (go_at_call 23
         (with_reducible refine (of_lit B _ _ ys vs _ _ X2.out rfl h1 h16 hby HVS.out).mono ?_)
         rintro e w2 ⟨B2, k2, d2, rfl, hk2, hk2b, hr2, hb2⟩
         have e1 : w2.cell? ⟨w.heap.size, 0, none⟩ = some (.slice A xs.length ca) := (hb2.cell (p := ⟨w.heap.size, 0, none⟩) (by have := hb1.size; have : w0.drew.heap.size = w0.heap.size := rfl; show w.heap.size < w1.heap.size; omega)).trans g1
         have e2 : w2.cell? ⟨w.heap.size + 1, 0, none⟩ = some (.slice B ys.length cb) := (hb2.cell (p := ⟨w.heap.size + 1, 0, none⟩) (by have := hb1.size; have : w0.drew.heap.size = w0.heap.size := rfl; show w.heap.size + 1 < w1.heap.size; omega)).trans g2))
  have h0 : St w w2 [(B1, ws), (B2, vs)] := St.put (St.put (show St w w2 [] from ⟨below_next q6 hb2, fun _ h => by cases h⟩) hr2) (hr1.below hb2)
  clear q1 q2 q3 q4 q5 q6 X1 X2 hr1 hr2 hb1 hb2 g1 g2 e1 e2 hx hy
  go_wp2_with fail
  refine (next_at _ _ _ ws ns _ _ (h0.rd 0 rfl) hk1.out HKW.out HNS.out ln).mono ?_
  rintro e w9 ⟨B9, m9, rfl, hm9, hm9b, hr9, hb9⟩
  have h9 := (h0.next hb9).put hr9
  clear h0 hr9 hb9
  go_wp2_with fail
  refine (rcheck_lit _ _ _ ns _ 0 _ (h9.rd 0 rfl) hm9.out HKN.out).mono ?_
  rintro e w10 ⟨rfl, hb10⟩
  have h10 := h9.next hb10
  clear h9 hb10
  go_wp2_with fail
  refine (rcmp_lit _ _ _ _ _ _ ws ns (-1) _ (h10.rd 1 rfl) (h10.rd 0 rfl) hk1.out hm9.out (by omega) HCN.out).mono ?_
  rintro e w11 ⟨rfl, hb11⟩
  have h11 := h10.next hb11
  clear h10 hb11
  go_wp2_with fail
  refine (rcmp_lit _ _ _ _ _ _ ws vs cs _ (h11.rd 1 rfl) (h11.rd 2 rfl) hk1.out hk2.out (by omega) HCS.out).mono ?_
  rintro e w12 ⟨rfl, hb12⟩
  have h12 := h11.next hb12
  clear h11 hb12
  by_cases hc : cs = -1
  all_goals
    first
      | (have hds := HNB.out hc
         subst hc
         have hdf : (ds == -1) = false := by simpa using hds
         go_wp2_with fail
         refine (rcmp_lit _ _ _ _ _ _ vs ns ds _ (h12.rd 2 rfl) (h12.rd 0 rfl) hk2.out hm9.out (by omega) HDS.out).mono ?_
         rintro e w13 ⟨rfl, hb13⟩
         have h13 := (h12.next hb13).1
         clear h12 hb13 hds)
      | (have hcf : (cs == -1) = false := by simpa using hc
         clear hc
         have h13 := h12.1
         clear h12)
    go_wp2_with fail
    refine (times_own_lit 256 (n - 1) 256 lg _ rfl (by decide) (by decide) HLG.out).mono ?_
    rintro e w14 ⟨g, gc, rfl, hgB, hown, hb14⟩
    have hB14 := below_next h13 hb14
    have hgB2 : w.heap.size ≤ g := by have := h13.size; omega
    clear h13 hb14 hgB
    go_wp2_with fail
    refine (next_over _ _ _ lg _ _ (Rd.of_own hown) LGL.out LGK.out LGN.out).mono ?_
    rintro e w15 ⟨B15, rfl, hr15, hb15⟩
    have hown2 := own_below hown hb15
    have hB15 := below_next hB14 hb15
    obtain ⟨z, hz⟩ : ∃ z, lg[200]?.getD 0 = z := ⟨_, rfl⟩
    have hc200 : w15.cell? ⟨g, 200, none⟩ = some (.int .i64 z) := by rw [hown2.cellAt 200 (by omega), G200.out, hz]
    have hf200 := hown2.frozenAt 200
    have hst := (hown2.stored 200 (.int .i64 0)).1
    have hse : (ints lg).set 200 (.int .i64 0) = ints l0 := by
      rw [← L0S.out]
      unfold ints
      rw [List.map_set]
    rw [hse] at hst
    clear hse
    have HST := Lib.hid (Rd.of_own hst)
    have hB16 := hB15.setCell (p := ⟨g, 200, none⟩) hgB2 (.int .i64 0)
    clear hst hown hown2 hz hb15 hB14 hB15 hr15
    by_cases hn1 : n = 1
    · have hll := HONE.out hn1
      subst hn1
      subst hll
      go_wp2_with fail
      refine (next_over _ _ _ l0 _ _ HST.out LGL.out LGK.out LGN.out).mono ?_
      rintro e w16 ⟨B16, rfl, hr16, hb16⟩
      have hB17 := below_next hB16 hb16
      clear hB16 hb16 hc200 hf200
      go_wp2_with fail
      refine (lives_any _ (he.below hB17)).mono ?_
      rintro e w17 ⟨rfl, hb17⟩
      have hB18 := below_next hB17 hb17
      go_wp2
      go_ret
      exact ⟨rfl, hB18⟩
    · have hn2 : 2 ≤ n := by omega
      have hn3 : (n == 1) = false := by simpa using hn1
      have HM := Lib.hid (HMORE.out hn2)
      clear hn1
      go_wp2_with fail
      refine (next_lit _ _ _ l0 l1 _ _ HST.out L0L.out L0K.out HM.out (by rw [L1L.out]; decide)).mono ?_
      rintro e w16 ⟨B16, rfl, hr16, hb16⟩
      rw [L1L.out]
      have hB17 := below_next hB16 hb16
      clear hB16 hb16 hc200 hf200
      go_wp2_with fail
      refine (word_lit _ _ _ _ [] _ _ Rd.nil_ Rd.nil_ rfl (by decide)).mono ?_
      rintro e w17 ⟨rfl, hb17⟩
      have hr17 := hr16.below hb17
      have hB18 := below_next hB17 hb17
      obtain ⟨gb, off, rfl, hlt, hcells⟩ := hr17 (by rw [L1L.out]; decide)
      have k200 : w17.cell? ⟨gb, off + 200, none⟩ = some (.int .i64 1) := by rw [hcells 200 (by rw [L1L.out]; decide), A200.out]
      have k255 : w17.cell? ⟨gb, off + 255, none⟩ = some (.int .i64 0) := by rw [hcells 255 (by rw [L1L.out]; decide), A255.out]
      have k199 : w17.cell? ⟨gb, off + 199, none⟩ = some (.int .i64 (n - 1)) := by rw [hcells 199 (by rw [L1L.out]; decide), A199.out]
      clear hcells hr16 hr17 hB17 hb17 hlt
      go_wp2_with fail
      refine (lives_any _ (he.below hB18)).mono ?_
      rintro e w18 ⟨rfl, hb18⟩
      have hB19 := below_next hB18 hb18
      clear k200 k255 k199
      go_wp2
      go_ret
      exact ⟨rfl, hB19⟩
end Go.Proofs.YtodjdfpealmjeaaDoor
