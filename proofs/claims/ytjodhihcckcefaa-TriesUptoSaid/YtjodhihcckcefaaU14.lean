/-
  Contracts: all words of so many symbols. No statement is proved here.
-/
import Derived.Test.YtjodhihcckcefaaU13
namespace Go.Proofs.Ytjodhihcckcefaa
open Go.RowKit Go.Maps

/-- A word in a block of its own. -/
def ExactB (w : World) (zs : List Int) (e : Ending) (w' : World) : Prop := ∃ g, e = .returned (.slice (some ⟨g, 0, none⟩) zs.length zs.length) ∧ w.heap.size ≤ g ∧ Blk w' g zs ∧ Below w.heap.size w w'
set_option maxRecDepth 100000 in
set_option maxHeartbeats 400000 in
theorem followB_any (A : Option Addr) (c : Nat) (zs : List Int) (n : Int) (w : World) (h : Rd w A zs) (hl : zs.length ≤ 65536) (hn1 : 1 ≤ n) (hn2 : n ≤ 16) (hv : M.Val n zs) :
    Calls Try.prog 93 #[.slice A zs.length c, .int .i64 n] w (ExactB w (M.next n zs)) := by
  obtain ⟨i0, hi0, hz0, hz1, hz2⟩ := info_parts int_info
  go_enter Try.func93, Try.ntmps93
  go_wp2_with (refine wpList_make_ints _ rfl _ _ rfl _ zs.length rfl rfl rfl (by omega) ?_)
  intro w1 hB1 hb1
  have hr1 := h.below hb1
  go_wp2_with (with_reducible refine wpList_copy_ints _ rfl (.tmp 11) (.tmp 12) rfl A zs.length w.heap.size zs.length c (List.replicate zs.length 0) zs rfl rfl hB1.out (by simp) hr1 rfl w.heap.size w hb1 (Nat.le_refl _) ?_)
  intro w2 hB2 hb2
  clear hB1 hb1 hr1
  go_wp2
  go_loopw [16] (fun i wr => ∃ (k : Nat) (cur : List Int), k ≤ zs.length ∧ i = .int .i64 k ∧ Hid (Blk wr w.heap.size cur) ∧ Hid (M.Fol n zs k cur) ∧ Below w.heap.size w wr) (fun i _ => zs.length - (intOf i).toNat)
  case atStart => exact ⟨0, zs, Nat.zero_le _, rfl, hB2, M.Fol.start n zs, hb2⟩
  case round =>
    obtain ⟨k, cur, hk, rfl, hB, hF, hbr⟩ := hrel
    clear hB2 hb2
    by_cases hlt : k < zs.length
    · have hlen := Lib.hid (hF.out.len hk)
      obtain ⟨z, hc, hf, hz⟩ := hB.out.at_ (k := zs.length - 1 - k) (by rw [hlen.out]; omega)
      obtain ⟨hv1, hv2⟩ := hF.out.val hlt hz.out hv
      by_cases hup : z < n - 1
      · have HN := Lib.hid (hF.out.up hlt hz.out hup)
        go_wp2
        go_ret
        refine ⟨w.heap.size, ?_, Nat.le_refl _, ?_, hbr.setCell (by show w.heap.size ≤ w.heap.size; omega) _⟩
        · rw [HN.out, List.length_set, hlen.out]
          rfl
        · rw [HN.out]
          exact hB.out.set_ _ _
      · have HN := Lib.hid (hF.out.over hlt hz.out hup)
        go_wp2
        go_roundw
        case rel => exact ⟨k + 1, _, by omega, by go_num, hB.out.set_ (zs.length - 1 - k) 0, HN, hbr.setCell (by show w.heap.size ≤ w.heap.size; omega) _⟩
        case measure => simp [intOf]; omega
    · obtain rfl : k = zs.length := by omega
      have HN := Lib.hid hF.out.done
      have hsz := hbr.size
      go_wp2_with (refine wpList_make_ints _ rfl _ _ rfl _ (zs.length + 1) rfl rfl (by omega) (by omega) ?_)
      intro w3 hB3 hb3
      go_wp2
      go_ret
      refine ⟨wr.heap.size, ?_, hsz, ?_, below_next hbr hb3⟩
      · rw [HN.out, List.length_replicate]
        rfl
      · rw [HN.out]
        exact hB3.out

/-- The next word, or that there is none. -/
theorem nextB_any (A : Option Addr) (c q : Nat) (zs : List Int) (n : Int) (w : World) (h : Rd w A zs) (hq : zs.length = q) (hck : M.check zs n = 0) (ys : List Int) (hy : M.next n zs = ys) (m : Nat) (hm : ys.length = m) :
    Calls Try.prog 82 #[.slice A q c, .int .i64 n] w fun e w' => Below w.heap.size w w' ∧ ((m ≤ 256 ∧ ∃ g, e = .returned (.tuple #[.slice (some ⟨g, 0, none⟩) m m, .int .i64 0]) ∧ Blk w' g ys) ∨ (256 < m ∧ e = .returned (.tuple #[.slice none 0 0, .int .i64 3]))) := by
  subst hq
  have HC := Lib.hid (check_any A c zs n w h)
  obtain ⟨hn1, hn2, hl2, hv⟩ := M.check_zero hck
  rw [hck] at HC
  have HF := Lib.hid (fun w' (hb : Below w.heap.size w w') => followB_any A c zs n w' (h.below hb) (by omega) hn2 hn1 hv)
  have HL := Lib.hid hm
  rw [hy] at HF
  clear hck hy hm h hv
  go_enter Try.func82, Try.ntmps82
  go_wp2_with fail
  refine HC.out.mono ?_
  rintro e w1 ⟨rfl, hb1⟩
  go_wp2_with fail
  refine (HF.out _ hb1).mono ?_
  rintro e w2 ⟨g, rfl, hg, hB, hb2⟩
  rw [HL.out]
  have HB := Lib.hid hB
  have B2 := Lib.hid (below_next hb1 hb2)
  clear hB hb1 hb2 hg
  by_cases hbig : 256 < m
  · have d1 : decide ((256 : Int) < m) = true := decide_eq_true (by omega)
    have d2 : (256 : Int) < m := by omega
    go_wp2
    go_ret2
    exact ⟨B2.out, Or.inr ⟨hbig, rfl⟩⟩
  · have d1 : decide ((256 : Int) < m) = false := decide_eq_false (by omega)
    have d2 : ¬ (256 : Int) < m := by omega
    go_wp2
    go_ret2
    exact ⟨B2.out, Or.inl ⟨by omega, g, rfl, HB.out⟩⟩
/-! ### The words in their order -/
theorem rk_lt_cmp {n : Int} (hn : 1 ≤ n) {x y : List Int} (hx : M.Val n x) (hy : M.Val n y) : M.cmp x y = -1 ↔ M.rk n x < M.rk n y := by
  rw [M.rk_cmp hn hx hy]
  rcases Int.lt_trichotomy (M.rk n x) (M.rk n y) with h | h | h
  · rw [M.sgn_lt h]; simp [h]
  · rw [M.sgn_eq h]; constructor <;> intro h1 <;> omega
  · rw [M.sgn_gt h]; constructor <;> intro h1 <;> omega
theorem rk_injU {n : Int} (hn : 1 ≤ n) {x y : List Int} (hx : M.Val n x) (hy : M.Val n y) (h : M.rk n x = M.rk n y) : x = y := by
  have := M.rk_cmp hn hx hy
  rw [M.sgn_eq h] at this
  exact M.cmp_zero_iff.1 this
theorem lex_zeros {n : Int} : ∀ {k : Nat} {y : List Int}, y.length = k → M.Val n y → M.lex (List.replicate k 0) y ≠ 1
  | 0, [], _, _ => by simp [M.lex]
  | k + 1, z :: y, h, hv => by
    have h1 := (hv z (by simp)).1
    have ih := lex_zeros (n := n) (k := k) (y := y) (by simpa using h) fun a ha => hv a (by simp [ha])
    rw [List.replicate_succ]
    show (if (0 : Int) < z then (-1 : Int) else if z < 0 then 1 else M.lex (List.replicate k 0) y) ≠ 1
    by_cases h2 : (0 : Int) < z
    · rw [if_pos h2]; decide
    · rw [if_neg h2, if_neg (by omega)]; exact ih
theorem val_zeros {n : Int} (hn : 1 ≤ n) (k : Nat) : M.Val n (List.replicate k 0) := fun z hz => by
  have := List.eq_of_mem_replicate hz
  omega
theorem rk_zeros {n : Int} (hn : 1 ≤ n) {t : Nat} {y : List Int} (hv : M.Val n y) (hl : t ≤ y.length) : M.rk n (List.replicate t 0) ≤ M.rk n y := by
  rcases Nat.lt_or_ge t y.length with h | h
  · exact Int.le_of_lt (M.rk_short hn (by simpa using h) (val_zeros hn t) hv)
  · have e : y.length = t := by omega
    have h1 := lex_zeros e hv
    have h2 : M.cmp (List.replicate t 0) y ≠ 1 := by
      unfold M.cmp
      rw [if_neg (by simp; omega), if_neg (by simp; omega)]
      exact h1
    rcases Int.lt_or_le (M.rk n y) (M.rk n (List.replicate t 0)) with h3 | h3
    · exfalso
      have h4 := (rk_lt_cmp hn hv (val_zeros hn t)).2 h3
      exact h2 (M.gt_of.2 h4)
    · exact h3
/-- The words of at least t and at most m symbols with ranks below r. -/
structure Bw (n : Int) (t : Nat) (m r : Int) (l : List (List Int)) : Prop where
  asc : M.asc l
  mem : ∀ y, y ∈ l ↔ M.Val n y ∧ t ≤ y.length ∧ M.rk n y < r
  short : ∀ y ∈ l, (y.length : Int) ≤ m
theorem Bw.start {n : Int} (hn : 1 ≤ n) (t : Nat) (m : Int) : Bw n t m (M.rk n (List.replicate t 0)) [] := ⟨List.Pairwise.nil, fun y => ⟨fun h => (by cases h), fun h => by have := rk_zeros hn h.1 h.2.1; omega⟩, fun y h => (by cases h)⟩
theorem Bw.step {n : Int} {t : Nat} {m r : Int} {l : List (List Int)} {x : List Int} (hn : 1 ≤ n) (h : Bw n t m r l) (hx : M.Val n x) (ht : t ≤ x.length) (hm : (x.length : Int) ≤ m) (hr : M.rk n x = r) : Bw n t m (r + 1) (l ++ [x]) := by
  refine ⟨?_, fun y => ?_, fun y hy => ?_⟩
  · unfold M.asc
    rw [List.pairwise_append]
    refine ⟨h.asc, List.pairwise_singleton _ _, fun y hy z hz => ?_⟩
    rw [List.mem_singleton.1 hz]
    have h1 := (h.mem y).1 hy
    exact (rk_lt_cmp hn h1.1 hx).2 (by omega)
  · rw [List.mem_append, List.mem_singleton, h.mem]
    constructor
    · rintro (⟨h1, h2, h3⟩ | rfl)
      · exact ⟨h1, h2, by omega⟩
      · exact ⟨hx, ht, by omega⟩
    · rintro ⟨h1, h2, h3⟩
      by_cases e : M.rk n y < r
      · exact Or.inl ⟨h1, h2, e⟩
      · exact Or.inr (rk_injU hn h1 hx (by omega))
  · rcases List.mem_append.1 hy with h1 | h1
    · exact h.short y h1
    · rw [List.mem_singleton.1 h1]; exact hm
theorem Bw.all {n : Int} {t : Nat} {m r : Int} {l S : List (List Int)} (h : Bw n t m r l) (hS : M.asc S) (hmem : ∀ y, y ∈ S ↔ M.Val n y ∧ t ≤ y.length ∧ (y.length : Int) ≤ m) (hr : ∀ y, M.Val n y → (y.length : Int) ≤ m → M.rk n y < r) : l = S :=
  M.asc_uniq h.asc hS fun y => by
    rw [hmem]
    constructor
    · intro hy
      have h1 := (h.mem y).1 hy
      exact ⟨h1.1, h1.2.1, h.short y hy⟩
    · rintro ⟨h1, h2, h3⟩
      exact (h.mem y).2 ⟨h1, h2, hr y h1 h3⟩
theorem Bw.sub {n : Int} {t : Nat} {m r : Int} {l S : List (List Int)} (h : Bw n t m r l) (hmem : ∀ y, y ∈ S ↔ M.Val n y ∧ t ≤ y.length ∧ (y.length : Int) ≤ m) : ∀ y ∈ l, y ∈ S := fun y hy => by
  have h1 := (h.mem y).1 hy
  exact (hmem y).2 ⟨h1.1, h1.2.1, h.short y hy⟩
def lenV : Value → Nat
  | .slice _ n _ => n
  | _ => 0
theorem OwL.lenV {ex : Bool} {w : World} {base : Nat} {v : Value} {l : List (List Int)} (h : OwL ex w base v l) : lenV v = l.length := by
  obtain ⟨A, c, rfl, _⟩ := h.form
  rfl
theorem check_of {n : Int} {x : List Int} (hn : 1 ≤ n) (hn2 : n ≤ 16) (hx : M.Val n x) (hl : x.length ≤ 256) : M.check x n = 0 := by
  unfold M.check
  rw [if_neg (by omega), if_neg (by omega)]
  unfold M.badI
  rw [if_neg]
  intro h
  obtain ⟨z, hz, hb⟩ := List.any_eq_true.1 h
  have := hx z hz
  unfold M.badB at hb
  simp at hb
  omega
open Classical in
/-- The error of all words of so many symbols. -/
noncomputable def bE (n least most : Int) (S : List (List Int)) : Int := if 16 < n then 3 else if n < 1 then 1 else if least < 0 then 1 else if 256 < most then 3 else gE 0 S n
set_option maxRecDepth 100000 in
set_option maxHeartbeats 4000000 in
theorem between_any (n least most : Int) (S : List (List Int)) (w : World) (hlm : least ≤ most) (hS : M.asc S) (hmem : ∀ y, y ∈ S ↔ M.Val n y ∧ least ≤ y.length ∧ (y.length : Int) ≤ most) (R : Int) (hR : bE n least most S = R) :
    Calls Try.prog 69 #[.int .i64 n, .int .i64 least, .int .i64 most] w (Lst w (okL R S) R) := by
  obtain ⟨E, hE⟩ : ∃ E : Int, (if 16 < n then 3 else if n < 1 then 1 else 0) = E := ⟨_, rfl⟩
  have CI := Lib.hid (cinputs_any n w)
  rw [hE] at CI
  by_cases hz : E = 0
  · subst hz
    have hn : ¬ 16 < n ∧ ¬ n < 1 := by
      constructor
      · intro h; rw [if_pos h] at hE; cases hE
      · intro h
        by_cases h1 : 16 < n
        · rw [if_pos h1] at hE; cases hE
        · rw [if_neg h1, if_pos h] at hE; cases hE
    unfold bE at hR
    rw [if_neg hn.1, if_neg hn.2] at hR
    clear hE
    by_cases h0 : least < 0
    · have d1 : decide (least < 0) = true := decide_eq_true h0
      rw [if_pos h0] at hR
      obtain rfl := hR
      rw [okL_err (by decide)]
      clear hS hmem hn
      go_enter Try.func69, Try.ntmps69
      go_wp2_with fail
      refine CI.out.mono ?_
      rintro e w' ⟨rfl, rfl⟩
      go_wp2
      go_ret2
      exact Lst.no (Below.refl _ _)
    have d1 : decide (least < 0) = false := decide_eq_false h0
    rw [if_neg h0] at hR
    by_cases h1 : 256 < most
    · have d2 : decide ((256 : Int) < most) = true := decide_eq_true h1
      rw [if_pos h1] at hR
      obtain rfl := hR
      rw [okL_err (by decide)]
      clear hS hmem hn
      go_enter Try.func69, Try.ntmps69
      go_wp2_with fail
      refine CI.out.mono ?_
      rintro e w' ⟨rfl, rfl⟩
      go_wp2
      go_ret2
      exact Lst.no (Below.refl _ _)
    have d2 : decide ((256 : Int) < most) = false := decide_eq_false h1
    rw [if_neg h1] at hR
    obtain ⟨t, rfl⟩ : ∃ t : Nat, least = (t : Int) := ⟨least.toNat, by omega⟩
    have HR := Lib.hid (hR ▸ gE_ok (S := S) (n := n))
    have HS := Lib.hid (And.intro hS (fun y => (show y ∈ S ↔ M.Val n y ∧ t ≤ y.length ∧ (y.length : Int) ≤ most by rw [hmem]; constructor <;> (rintro ⟨a, b, c⟩; exact ⟨a, by omega, c⟩))))
    have hn1 : Hid (1 ≤ n ∧ n ≤ 16) := ⟨by omega, by omega⟩
    have ht256 : t ≤ 256 := by omega
    clear hS hmem hn hR
    go_enter Try.func69, Try.ntmps69
    go_wp2_with fail
    refine CI.out.mono ?_
    rintro e w' ⟨rfl, rfl⟩
    clear CI
    go_wp2_with (first
      | (refine wpList_make_ints _ rfl _ _ rfl _ t rfl rfl rfl (by omega) ?_; intro w1 hB1 hb1)
      | fail)
    have s1 : Hid (Bw n t most (M.rk n (List.replicate t 0)) []) := Bw.start hn1.out.1 t most
    have b1 := Lib.hid hb1
    clear hb1
    go_loopw [9, 10, 11] (fun v u z wr => ∃ (l : List (List Int)) (r : Int), Hid (OwL true wr w'.heap.size v l) ∧ Hid (Bw n t most r l) ∧ l.length ≤ 4096 ∧ Hid (Below w'.heap.size w' wr) ∧
      ((∃ (g q : Nat) (x : List Int), u = .slice (some ⟨g, 0, none⟩) q q ∧ z = .int .i64 0 ∧ Hid (x.length = q ∧ Blk wr g x ∧ M.Val n x ∧ M.rk n x = r) ∧ q ≤ 256 ∧ t ≤ q) ∨ (u = .slice none 0 0 ∧ z = .int .i64 3 ∧ Hid (∀ y, M.Val n y → y.length ≤ 256 → M.rk n y < r)))) (fun v _ _ _ => 4097 - lenV v)
    case atStart => exact ⟨[], _, OwL.nil_ _ _, s1.out, by simp, b1.out, Or.inl ⟨_, t, List.replicate t 0, rfl, rfl, ⟨by simp, hB1.out, val_zeros hn1.out.1 t, rfl⟩, ht256, Nat.le_refl _⟩⟩
    case round =>
      clear s1 b1 hB1
      obtain ⟨l, r, hO, hW, hl, hb, hst⟩ := hrel
      rcases hst with ⟨g, q, x, rfl, rfl, hx, hq, htq⟩ | ⟨rfl, rfl, hx⟩
      · by_cases hm : (q : Int) ≤ most
        · have d3 : decide ((q : Int) ≤ most) = true := decide_eq_true hm
          obtain ⟨Av, cv, rfl, hcv, _⟩ := hO.out.form
          obtain ⟨k, hk⟩ : ∃ k, l.length = k := ⟨_, rfl⟩
          have HW2 := Lib.hid (hW.out.step hn1.out.1 hx.out.2.2.1 (by rw [hx.out.1]; exact htq) (by rw [hx.out.1]; exact hm) hx.out.2.2.2)
          by_cases hfull : k = 4096
          · obtain rfl : R = 3 := by
              rcases HR.out with ⟨_, hv⟩ | ⟨h, _⟩
              · exfalso
                have h1 := hv.len
                have h2 := nodup_le_len (M.asc_nodup HW2.out.asc) (HW2.out.sub HS.out.2)
                rw [List.length_append, hk, hfull] at h2
                simp at h2
                omega
              · exact h
            subst hfull
            rw [hk]
            clear hO hW hx HW2 hk
            go_wp2
            go_ret2
            rw [okL_err (by decide)]
            exact Lst.no hb.out
          · have d4 : ((k : Int) == 4096) = false := by rw [beq_eq_false_iff_ne]; omega
            have hck := check_of hn1.out.1 hn1.out.2 hx.out.2.2.1 (by rw [hx.out.1]; exact hq)
            obtain ⟨ys, hys⟩ : ∃ ys, M.next n x = ys := ⟨_, rfl⟩
            obtain ⟨m, hml⟩ : ∃ m, ys.length = m := ⟨_, rfl⟩
            have HNV := Lib.hid (M.next_val hn1.out.1 x.length x rfl hx.out.2.2.1)
            rw [hys] at HNV
            have HNX := Lib.hid (fun W (hB : Blk W g x) => nextB_any (some ⟨g, 0, none⟩) q q x n W hB.rd hx.out.1 hck ys hys m hml)
            have HML := Lib.hid hml
            have HKL := Lib.hid hk
            have hO2 := hO.out
            rw [hk] at hO2 hl ⊢
            clear hck hys hml hk hO hW
            go_upto_region 11 with (first
              | (refine wpList_append_w wr hO2 (by rw [HKL.out]; omega) (RdK.blk hx.out.2.1) hx.out.1 (fun _ => rfl) hb.out hb.out.size rfl _ _ rfl rfl rfl ?_
                 intro v1 w4 hO4 hb4 hg4)
              | fail)
            have hB4 : Blk w4 g x := by
              have h1 := hx.out.2.1
              have h2 : Blk (wr.alloc (.cells #[.slice (some ⟨g, 0, none⟩) q q] 23)) g x := (Below.heap_alloc _ _ g h1.lt).trans h1
              refine (hg4.block g h2.lt fun e => ?_).trans h2
              obtain ⟨h3, cs, h4⟩ := hO2.row g e.symm
              unfold Blk at h1
              rw [h1] at h4
              simp at h4
            have HO4 := Lib.hid hO4
            have HB4 := Lib.hid hb4
            have HX4 := Lib.hid (HNX.out w4 hB4)
            clear hO4 hb4 hg4 hB4 HNX hO2 hb
            go_wp2_with fail
            refine HX4.out.mono ?_
            rintro e w5 ⟨hb5, hcase⟩
            have HO5 := Lib.hid (HO4.out.below hb5)
            have HB5 := Lib.hid (below_next HB4.out hb5)
            have hlen1 := HO5.out.lenV
            rw [List.length_append, HKL.out] at hlen1
            clear hb5 HO4 HB4 HX4
            rcases hcase with ⟨hm256, g2, rfl, hB2⟩ | ⟨hm256, rfl⟩
            · have HB2 := Lib.hid hB2
              clear hB2
              go_wp2
              go_roundw
              case rel =>
                have hv := HNV.out
                have h0 := hx.out
                exact ⟨l ++ [x], r + 1, HO5.out, HW2.out, by rw [List.length_append, HKL.out]; simp; omega, HB5.out, Or.inl ⟨g2, m, ys, rfl, rfl, ⟨HML.out, HB2.out, hv.1, by rw [hv.2.1, h0.2.2.2]⟩, hm256, by have := hv.2.2.1; have := HML.out; have := h0.1; omega⟩⟩
              case measure => rw [hlen1]; simp [lenV]; omega
            · go_wp2
              go_roundw
              case rel =>
                have hv := HNV.out
                have h0 := hx.out
                exact ⟨l ++ [x], r + 1, HO5.out, HW2.out, by rw [List.length_append, HKL.out]; simp; omega, HB5.out, Or.inr ⟨rfl, rfl, fun y hy hyl => by
                  have h1 := M.rk_short hn1.out.1 (x := y) (y := ys) (by have := HML.out; omega) hy hv.1
                  rw [hv.2.1, h0.2.2.2] at h1
                  exact h1⟩⟩
              case measure => rw [hlen1]; simp [lenV]; omega
        · have d3 : decide ((q : Int) ≤ most) = false := decide_eq_false hm
          have hlS : l = S := hW.out.all HS.out.1 HS.out.2 fun y hy hyl => by
            have h0 := hx.out
            rw [← h0.2.2.2]
            exact M.rk_short hn1.out.1 (by have := h0.1; omega) hy h0.2.2.1
          subst hlS
          clear hx hW
          obtain ⟨Av, cv, rfl, hcv, _⟩ := hO.out.form
          obtain ⟨k, hk⟩ : ∃ k, l.length = k := ⟨_, rfl⟩
          have HX := Lib.hid hO.out.rdx
          have HKL := Lib.hid hk
          rw [hk] at hcv hl ⊢
          clear hk hO
          go_wp2_with fail
          refine (clip_any Av k cv wr hcv).mono ?_
          rintro e w5 ⟨rfl, rfl⟩
          have HL := Lib.hid (limited_any Av k k l n w5 HX.out.rds HKL.out (by omega) R HR.out)
          go_wp2_with fail
          refine HL.out.mono ?_
          rintro e w6 ⟨rfl, hb6⟩
          have HB := Lib.hid (below_next hb.out hb6)
          have HX6 := Lib.hid (HX.out.below hb6)
          clear hb hb6 HX HL
          rcases HR.out with ⟨rfl, _⟩ | ⟨rfl, _⟩
          · go_wp2
            go_ret2
            rw [okL_ok]
            exact ⟨_, k, rfl, HKL.out.symm, HX6.out, HB.out⟩
          · go_wp2
            go_ret2
            rw [okL_err (by decide)]
            exact Lst.no HB.out
      · have hlS : l = S := hW.out.all HS.out.1 HS.out.2 fun y hy hyl => hx.out y hy (by omega)
        subst hlS
        clear hx hW
        obtain ⟨Av, cv, rfl, hcv, _⟩ := hO.out.form
        obtain ⟨k, hk⟩ : ∃ k, l.length = k := ⟨_, rfl⟩
        have HX := Lib.hid hO.out.rdx
        have HKL := Lib.hid hk
        rw [hk] at hcv hl ⊢
        clear hk hO
        go_wp2_with fail
        refine (clip_any Av k cv wr hcv).mono ?_
        rintro e w5 ⟨rfl, rfl⟩
        have HL := Lib.hid (limited_any Av k k l n w5 HX.out.rds HKL.out (by omega) R HR.out)
        go_wp2_with fail
        refine HL.out.mono ?_
        rintro e w6 ⟨rfl, hb6⟩
        have HB := Lib.hid (below_next hb.out hb6)
        have HX6 := Lib.hid (HX.out.below hb6)
        clear hb hb6 HX HL
        rcases HR.out with ⟨rfl, _⟩ | ⟨rfl, _⟩
        · go_wp2
          go_ret2
          rw [okL_ok]
          exact ⟨_, k, rfl, HKL.out.symm, HX6.out, HB.out⟩
        · go_wp2
          go_ret2
          rw [okL_err (by decide)]
          exact Lst.no HB.out
  · have hR2 : R = E := by
      rw [← hR, ← hE]
      unfold bE
      by_cases h1 : 16 < n
      · rw [if_pos h1, if_pos h1]
      · rw [if_neg h1, if_neg h1]
        by_cases h2 : n < 1
        · rw [if_pos h2, if_pos h2]
        · rw [if_neg h1, if_neg h2] at hE
          exact absurd hE.symm hz
    subst hR2
    have hz1 : (R != 0) = true := by simpa using hz
    rw [okL_err hz]
    clear hS hmem hE hR hz
    go_enter Try.func69, Try.ntmps69
    go_wp2_with fail
    refine CI.out.mono ?_
    rintro e w' ⟨rfl, rfl⟩
    go_wp2
    go_ret2
    exact Lst.no (Below.refl _ _)
end Go.Proofs.Ytjodhihcckcefaa
