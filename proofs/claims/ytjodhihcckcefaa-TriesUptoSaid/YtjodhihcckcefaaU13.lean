/-
  Contracts: Concat of lists. No statement is proved here.
-/
import Derived.Test.YtjodhihcckcefaaU12
namespace Go.Proofs.Ytjodhihcckcefaa
open Go.RowKit Go.Maps

theorem nodup_le_len {α : Type} [BEq α] [LawfulBEq α] : ∀ {l S : List α}, l.Nodup → (∀ x ∈ l, x ∈ S) → l.length ≤ S.length
  | [], S, _, _ => by simp
  | a :: l, S, h, hs => by
    have h1 := List.nodup_cons.1 h
    have ha : a ∈ S := hs a (by simp)
    have h2 := nodup_le_len (l := l) (S := S.erase a) h1.2 fun x hx => (List.mem_erase_of_ne (fun e => h1.1 (by rw [← e]; exact hx))).2 (hs x (by simp [hx]))
    rw [List.length_erase_of_mem ha] at h2
    have := List.length_pos_of_mem ha
    simp
    omega
theorem Sz.le {f : Wf} {N : Nat} {S : List (List Int)} (h : Sz f N) (hs : ∀ x, (f x).isSome = true → x ∈ S) : N ≤ S.length := by
  obtain ⟨ks, h1, h2, rfl⟩ := h
  have h3 : (ks.map M.uW).Nodup := by
    rw [List.nodup_iff_pairwise_ne, List.pairwise_map]
    exact h1.imp fun hne e => hne (M.uW_inj e)
  have := nodup_le_len h3 fun x hx => by
    obtain ⟨s, hs1, rfl⟩ := List.mem_map.1 hx
    exact hs _ ((h2 s).1 hs1)
  simpa using this
/-- The words of one list, followed by those of another one. -/
def catL (a b : List (List Int)) : List (List Int) := a.flatMap fun u => b.map fun v => u ++ v
theorem catL_mem {a b : List (List Int)} {x : List Int} : x ∈ catL a b ↔ ∃ u ∈ a, ∃ v ∈ b, x = u ++ v := by
  unfold catL
  rw [List.mem_flatMap]
  constructor
  · rintro ⟨u, hu, hx⟩
    obtain ⟨v, hv, rfl⟩ := List.mem_map.1 hx
    exact ⟨u, hu, v, hv, rfl⟩
  · rintro ⟨u, hu, v, hv, rfl⟩
    exact ⟨u, hu, List.mem_map.2 ⟨v, hv, rfl⟩⟩
/-- What has been put together: with the first k words all, with the next one u those with the first j. -/
def catS (a b : List (List Int)) (k j : Nat) : List (List Int) := catL (a.take k) b ++ (b.take j).map fun v => M.row a k ++ v
theorem catS_zero (a b : List (List Int)) : catS a b 0 0 = [] := by simp [catS, catL]
theorem catS_step {a b : List (List Int)} {k j : Nat} (hj : j < b.length) : catS a b k (j + 1) = catS a b k j ++ [M.row a k ++ M.row b j] := by
  unfold catS
  rw [take_row hj, List.map_append, List.append_assoc]
  rfl
theorem catS_next {a b : List (List Int)} {k : Nat} (hk : k < a.length) : catS a b k b.length = catS a b (k + 1) 0 := by
  unfold catS catL
  rw [take_row hk, List.flatMap_append, List.take_length]
  simp
theorem catS_all {a b : List (List Int)} : catS a b a.length 0 = catL a b := by
  unfold catS
  simp
theorem catS_sub {a b : List (List Int)} {k j : Nat} {x : List Int} (hk : k < a.length) (h : x ∈ catS a b k j) : x ∈ catL a b := by
  unfold catS at h
  rcases List.mem_append.1 h with h | h
  · obtain ⟨u, hu, v, hv, e⟩ := catL_mem.1 h
    exact catL_mem.2 ⟨u, List.mem_of_mem_take hu, v, hv, e⟩
  · obtain ⟨v, hv, rfl⟩ := List.mem_map.1 h
    exact catL_mem.2 ⟨_, M.row_mem hk, v, List.mem_of_mem_take hv, rfl⟩
theorem cat_two {n : Int} {u v : List Int} (hu : M.check u n = 0) (hv : M.check v n = 0) : M.catE n [u, v] = (if 256 < u.length + v.length then 3 else 0) ∧ M.catV n [u, v] = (if 256 < u.length + v.length then [] else u ++ v) := by
  have h1 : M.ferr n [u, v] = 0 := M.ferr_zero.2 (by simp [hu, hv])
  have h2 : M.total [u, v] = u.length + v.length := by simp [M.total]
  have e : M.catE n [u, v] = (if 256 < u.length + v.length then 3 else 0) := by
    unfold M.catE
    rw [if_pos h1, h2]
  refine ⟨e, ?_⟩
  unfold M.catV
  rw [e]
  by_cases h : 256 < u.length + v.length
  · rw [if_pos h, if_pos h]; rfl
  · rw [if_neg h, if_neg h]
    simp
theorem rds_two {w : World} {A B : Option Addr} {c d : Nat} {u v : List Int} (hu : Rd w A u) (hv : Rd w B v) : RdS (w.alloc (.cells #[.slice A u.length c, .slice B v.length d] 23)) (some ⟨w.heap.size, 0, none⟩) [u, v] := fun _ => by
  have hb := (Below.refl w.heap.size w).alloc (Nat.le_refl _) (.cells #[.slice A u.length c, .slice B v.length d] 23)
  have hcl := heap_alloc_new w (.cells #[.slice A u.length c, .slice B v.length d] 23)
  refine ⟨_, 0, rfl, by simp, fun k hk => ?_⟩
  match k, hk with
  | 0, _ => exact ⟨A, c, by rw [cell_of_row _ _ _ _ _ _ hcl]; rfl, hu.below hb⟩
  | 1, _ => exact ⟨B, d, by rw [cell_of_row _ _ _ _ _ _ hcl]; rfl, hv.below hb⟩
theorem concat2_any {w : World} {A B : Option Addr} {c d : Nat} {u v : List Int} (n : Int) (hu : Rd w A u) (hv : Rd w B v) (h1 : M.check u n = 0) (h2 : M.check v n = 0) (x : List Int) (q : Nat) (hq : x.length = q) (E : Int) (hE : (E = 3 ∧ x = [] ∧ 256 < u.length + v.length) ∨ (E = 0 ∧ x = u ++ v ∧ ¬ 256 < u.length + v.length)) :
    Calls Try.prog 68 #[.int .i64 n, .slice (some ⟨w.heap.size, 0, none⟩) 2 2] (w.alloc (.cells #[.slice A u.length c, .slice B v.length d] 23)) fun e w' => ∃ C, e = .returned (.tuple #[.slice C q q, .int .i64 E]) ∧ Rd w' C x ∧ Below w.heap.size w w' := by
  subst hq
  have hl1 := (M.check_zero_u h1).2.2.1
  have hl2 := (M.check_zero_u h2).2.2.1
  have h := concat_any (some ⟨w.heap.size, 0, none⟩) 2 [u, v] n _ (rds_two (c := c) (d := d) hu hv) (by simp) (fun k => by
    match k with
    | 0 => show u.length ≤ _; omega
    | 1 => show v.length ≤ _; omega
    | k + 2 => simp [M.row])
  obtain ⟨e1, e2⟩ := cat_two h1 h2
  have ex : M.catE n [u, v] = E ∧ M.catV n [u, v] = x := by
    rw [e1, e2]
    rcases hE with ⟨rfl, rfl, h3⟩ | ⟨rfl, rfl, h3⟩
    · rw [if_pos h3, if_pos h3]; exact ⟨rfl, rfl⟩
    · rw [if_neg h3, if_neg h3]; exact ⟨rfl, rfl⟩
  rw [ex.1, ex.2] at h
  refine h.mono ?_
  rintro e w' ⟨C, rfl, hr, hb⟩
  exact ⟨C, rfl, hr, below_next ((Below.refl w.heap.size w).alloc (Nat.le_refl _) _) hb⟩
set_option maxRecDepth 100000 in
set_option maxHeartbeats 4000000 in
theorem tconcat_any (L K : Option Addr) (c d N N2 : Nat) (rows rows2 S : List (List Int)) (n : Int) (w : World) (h : RdS w L rows) (hN : rows.length = N) (hm : N ≤ 9223372036854775807) (h2 : RdS w K rows2) (hN2 : rows2.length = N2) (hm2 : N2 ≤ 9223372036854775807) (hS : M.asc S) (hmem : ∀ x, x ∈ S ↔ ∃ u ∈ rows, ∃ v ∈ rows2, x = u ++ v) (R : Int) (hR : gE (chE2 rows rows2 n) S n = R) :
    Calls Try.prog 35 #[.slice L N c, .slice K N2 d, .int .i64 n] w (Lst w (okL R S) R) := by
  have hmm := @run_makeMap Try.prog
  have C1 := Lib.hid (tboth_any L K c d N N2 rows rows2 n w h hN hm h2 hN2 hm2)
  by_cases hz : chE2 rows rows2 n = 0
  · have hz1 : M.chE rows n = 0 := by
      unfold chE2 at hz
      by_cases e : M.chE rows n = 0
      · exact e
      · rw [if_pos e] at hz; exact absurd hz e
    have hz2 : M.chE rows2 n = 0 := by
      unfold chE2 at hz
      rw [if_neg (by omega)] at hz
      exact hz
    have hv1 := M.chE_zero.1 hz1
    have hv2 := M.chE_zero.1 hz2
    rw [hz] at hR C1
    have HR := Lib.hid (hR ▸ gE_ok (S := S) (n := n))
    have HH := Lib.hid (And.intro h h2)
    have HN := Lib.hid (And.intro hN hN2)
    have HM := Lib.hid (And.intro hS (fun x => (show x ∈ S ↔ x ∈ catL rows rows2 by rw [hmem, catL_mem])))
    have HV := Lib.hid (And.intro hv1 hv2)
    have hN4 : N ≤ 4096 := by have := hv1.len; omega
    have hN24 : N2 ≤ 4096 := by have := hv2.len; omega
    clear h h2 hN hN2 hz hz1 hz2 hv1 hv2 hS hmem hR
    go_enter Try.func35, Try.ntmps35
    go_wp2_with fail
    refine C1.out.mono ?_
    rintro e w1 ⟨rfl, hb1⟩
    have s1 : Hid (Mp (w1.alloc (.map #[] 0)) w1.heap.size 0 (inF (catS rows rows2 0 0))) := by rw [catS_zero, inF_nil]; exact Mp.make w1
    have b1 := Lib.hid (hb1.alloc hb1.size (.map #[] 0))
    obtain ⟨g, hg⟩ : ∃ g, w1.heap.size = g := ⟨_, rfl⟩
    have hgw : w.heap.size ≤ g := by rw [← hg]; exact hb1.size
    rw [hg] at s1
    clear hb1
    go_wp2
    try rw [hg]
    go_loopw [26] (fun v wr => ∃ k : Nat, k ≤ N ∧ v = .int .i64 k ∧ Hid (Mp wr g (k * N2) (inF (catS rows rows2 k 0))) ∧ Hid (Below w.heap.size w wr)) (fun v _ => N - (intOf v).toNat)
    case atStart => exact ⟨0, Nat.zero_le _, rfl, (by rw [Nat.zero_mul]; exact s1.out), b1.out⟩
    case round =>
      clear s1 b1
      obtain ⟨k, hk, rfl, hM, hb⟩ := hrel
      by_cases hlt : k < N
      · have hkl : k < rows.length := by rw [HN.out.1]; exact hlt
        obtain ⟨bu, offu, Au, cu, mu, rfl, hbu, hcw, hru, hmu⟩ := HH.out.1.at_ hkl
        have hcu := ((bcell hb.out).1 bu (offu + k) hbu).trans hcw
        have hku := HV.out.1.ck _ (M.row_mem hkl)
        have HNX := Lib.hid (catS_next (b := rows2) hkl)
        have HST := Lib.hid (fun j (hj : j < N2) => catS_step (a := rows) (b := rows2) (k := k) (j := j) (by rw [HN.out.2]; exact hj))
        have HSB := Lib.hid (fun j x (hx : x ∈ catS rows rows2 k j) => (HM.out.2 x).2 (catS_sub hkl hx))
        have HSU := Lib.hid (fun j (hj : j < N2) => (HM.out.2 _).2 (catL_mem.2 ⟨_, M.row_mem hkl, _, M.row_mem (show j < rows2.length by rw [HN.out.2]; exact hj), rfl⟩))
        obtain ⟨u, hu⟩ : ∃ u, M.row rows k = u := ⟨_, rfl⟩
        rw [hu] at hru hmu hku HST HSU
        obtain rfl : u.length = mu := hmu.out
        have HU := Lib.hid (And.intro hru hku)
        have hMs : Hid (Mp wr g (k * N2 + 0) (inF (catS rows rows2 k 0))) := hM
        clear hru hmu hku hu hcw
        go_wp2
        go_loopw [32] (fun v wq => ∃ j : Nat, j ≤ N2 ∧ v = .int .i64 j ∧ Hid (Mp wq g (k * N2 + j) (inF (catS rows rows2 k j))) ∧ Hid (Below w.heap.size w wq)) (fun v _ => N2 - (intOf v).toNat)
        case atStart => exact ⟨0, Nat.zero_le _, rfl, hMs.out, hb.out⟩
        case round =>
          clear hMs hM hb hcu
          obtain ⟨j, hj, rfl, hMj, hbw⟩ := hrel
          by_cases hlt2 : j < N2
          · have hjl : j < rows2.length := by rw [HN.out.2]; exact hlt2
            obtain ⟨bv, offv, Av, cv, mv, rfl, hbv, hcw, hrv, hmv⟩ := HH.out.2.at_ hjl
            have hcv := ((bcell hbw.out).1 bv (offv + j) hbv).trans hcw
            have hkv := HV.out.2.ck _ (M.row_mem hjl)
            have hst := HST.out j hlt2
            have hsu := HSU.out j hlt2
            obtain ⟨v, hv⟩ : ∃ v, M.row rows2 j = v := ⟨_, rfl⟩
            rw [hv] at hrv hmv hkv hst hsu
            obtain rfl : v.length = mv := hmv.out
            have hruq := HU.out.1.below hbw.out
            have hrvq := hrv.below hbw.out
            by_cases hbig : 256 < u.length + v.length
            · have CC := Lib.hid (concat2_any (c := cu) (d := cv) n hruq hrvq HU.out.2 hkv [] 0 rfl 3 (Or.inl ⟨rfl, rfl, hbig⟩))
              obtain rfl : R = 3 := by
                rcases HR.out with ⟨_, hl⟩ | ⟨hl, _⟩
                · have := (M.check_zero_u (hl.ck _ hsu)).2.2.1
                  rw [List.length_append] at this
                  omega
                · exact hl
              clear hrv hmv hkv hst hsu hruq hrvq hv hcw hMj hbig
              go_wp2_with fail
              refine CC.out.mono ?_
              rintro e w3 ⟨C, rfl, hrx, hb3⟩
              have HB := Lib.hid (below_next hbw.out hb3)
              clear hrx hb3 CC hcv
              go_wp2
              go_ret2
              rw [okL_err (by decide)]
              exact Lst.no HB.out
            · obtain ⟨x, hx⟩ : ∃ x, u ++ v = x := ⟨_, rfl⟩
              obtain ⟨q, hq⟩ : ∃ q, x.length = q := ⟨_, rfl⟩
              have hq256 : q ≤ 256 := by rw [← hq, ← hx, List.length_append]; omega
              have CC := Lib.hid (concat2_any (c := cu) (d := cv) n hruq hrvq HU.out.2 hkv x q hq 0 (Or.inr ⟨rfl, hx.symm, hbig⟩))
              have hbyx : M.By x := by
                intro z hz
                rw [← hx] at hz
                rcases List.mem_append.1 hz with h1 | h1
                · exact M.By.of_check HU.out.2 z h1
                · exact M.By.of_check hkv z h1
              rw [hx] at hst
              have HX := Lib.hid (And.intro hbyx hq)
              have HS2 := Lib.hid hst
              clear hrv hmv hkv hst hsu hruq hrvq hv hcw hbig hbyx hq hx
              go_wp2_with fail
              refine CC.out.mono ?_
              rintro e w3 ⟨C, rfl, hrx, hb3⟩
              have HB3 := Lib.hid (below_next hbw.out hb3)
              have HM3 := Lib.hid (hMj.out.mv hb3 hMj.out.lt)
              have HC := Lib.hid (key_any C q q x w3 hrx HX.out.2 (by omega) HX.out.1)
              clear hrx hb3 CC hcv hMj hbw
              go_wp2_with fail
              refine HC.out.mono ?_
              rintro e w4 ⟨rfl, hb4⟩
              have HB4 := Lib.hid (below_next HB3.out hb4)
              have HM4 := Lib.hid (HM3.out.mv hb4 HM3.out.lt)
              have hkn : k * N2 + j ≤ 16777216 + 4096 := by have := Nat.mul_le_mul (Nat.le_trans hk hN4) hN24; omega
              have hgw4 := hgw
              clear hb4 HB3 HM3 HC
              go_upto_region 15 with (first
                | (refine wpList_mput _ rfl _ _ _ rfl g (k * N2 + j) (inF (catS rows rows2 k j)) rfl HM4.out (by unfold maxLen; omega) x true rfl rfl HX.out.1 (by rw [HX.out.2]; omega) ?_; intro w5 hM5 hg5)
                | fail)
              rw [inF_snoc, ← HS2.out] at hM5
              have HB5 := Lib.hid (HB4.out.grown hg5 HB4.out.size (fun r hr => by cases hr; exact hgw))
              obtain ⟨N', hS', hN'⟩ := hM5.sz
              have HM5 := Lib.hid hM5
              have HS5 := Lib.hid hS'
              have hle := Lib.hid (Sz.le hS' (fun y hy => HSB.out (j + 1) y (inF_some.1 hy)))
              clear hM5 hS' hg5 HB4 HM4
              by_cases hb4 : 4096 < N'
              · have d1 : decide ((4096 : Int) < N') = true := decide_eq_true (by omega)
                have d2 : (4096 : Int) < N' := by omega
                obtain rfl : R = 3 := by
                  rcases HR.out with ⟨_, hl⟩ | ⟨hl, _⟩
                  · have := hl.len; have := hle.out; omega
                  · exact hl
                go_wp2_with (first
                  | (refine wpList_mlen _ rfl _ rfl g _ _ rfl HM5.out N' HS5.out ?_)
                  | fail)
                go_ret2
                rw [okL_err (by decide)]
                exact Lst.no HB5.out
              · have d1 : decide ((4096 : Int) < N') = false := decide_eq_false (by omega)
                have d2 : ¬ (4096 : Int) < N' := by omega
                go_wp2_with (first
                  | (refine wpList_mlen _ rfl _ rfl g _ _ rfl HM5.out N' HS5.out ?_)
                  | fail)
                go_roundw
                case rel => exact ⟨j + 1, by omega, by go_num, HM5, HB5⟩
                case measure => simp [intOf]; omega
          · obtain rfl : j = N2 := by omega
            have HE : Hid (Mp wr g ((k + 1) * j) (inF (catS rows rows2 (k + 1) 0))) := by
              show Mp wr _ _ _
              rw [← HNX.out, HN.out.2]; exact hMj.out.mono (by rw [Nat.add_mul]; omega)
            clear hMj
            go_wp2
            go_roundw
            case rel => exact ⟨k + 1, by omega, by go_num, HE, hbw⟩
            case measure => simp [intOf]; omega
      · obtain rfl : k = N := by omega
        have hall : Hid (Mp wr g (k * N2) (inF (catL rows rows2))) := by
          have := hM.out
          rw [← HN.out.1, catS_all, HN.out.1] at this
          exact this
        clear hM
        go_wp2_with fail
        refine (gather_any g (k * N2) (inF (catL rows rows2)) S n R wr hall.out (by have := Nat.mul_le_mul hN4 hN24; omega) HM.out.1 (fun x => by rw [inF_some]; exact HM.out.2 x) HR.out).mono ?_
        rintro e w4 ⟨A, q, rfl, hq, hx, hb4⟩
        have HL := Lib.hid (Lst.after (R := R) hb.out hq hx hb4)
        clear hq hx hb4 hb hall
        go_wp2
        go_ret2
        exact HL.out
  · rw [gE_err hz] at hR
    rw [hR] at C1 hz
    have hz1 : (R != 0) = true := by simpa using hz
    rw [okL_err hz]
    clear hR h h2 hN hN2 hS hmem hz
    go_enter Try.func35, Try.ntmps35
    go_wp2_with fail
    refine C1.out.mono ?_
    rintro e w1 ⟨rfl, hb1⟩
    go_wp2
    go_ret2
    exact Lst.no hb1
end Go.Proofs.Ytjodhihcckcefaa
