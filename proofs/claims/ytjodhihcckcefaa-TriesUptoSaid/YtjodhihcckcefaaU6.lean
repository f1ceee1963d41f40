/-
  Contracts: the prefixes of words as keys of a map. No statement is proved here.
-/
import Derived.Test.YtjodhihcckcefaaU5
import Derived.Laws.Slices
namespace Go.Proofs.Ytjodhihcckcefaa
open Go.RowKit Go.Maps

/-! ### Prefixes -/
def pfs (l : List (List Int)) (x : List Int) : Bool := l.any fun y => M.pre x y
def ppr (l : List (List Int)) (x : List Int) : Bool := l.any fun y => M.pre x y && decide (x.length < y.length)
def pfF (l : List (List Int)) : Wf := fun x => if pfs l x then some (ppr l x) else none
theorem pre_iff {x y : List Int} : M.pre x y = true ↔ x <+: y := by unfold M.pre; exact List.isPrefixOf_iff_prefix
theorem pre_false {x y : List Int} : M.pre x y = false ↔ ¬ x <+: y := by rw [← pre_iff]; simp
theorem pfs_iff {l : List (List Int)} {x : List Int} : pfs l x = true ↔ ∃ y ∈ l, x <+: y := by
  unfold pfs
  rw [List.any_eq_true]
  constructor
  · rintro ⟨y, h1, h2⟩; exact ⟨y, h1, pre_iff.1 h2⟩
  · rintro ⟨y, h1, h2⟩; exact ⟨y, h1, pre_iff.2 h2⟩
theorem ppr_iff {l : List (List Int)} {x : List Int} : ppr l x = true ↔ ∃ y ∈ l, x <+: y ∧ x.length < y.length := by
  unfold ppr
  rw [List.any_eq_true]
  constructor
  · rintro ⟨y, h1, h2⟩
    rw [Bool.and_eq_true, decide_eq_true_iff] at h2
    exact ⟨y, h1, pre_iff.1 h2.1, h2.2⟩
  · rintro ⟨y, h1, h2, h3⟩
    exact ⟨y, h1, by rw [Bool.and_eq_true, decide_eq_true_iff]; exact ⟨pre_iff.2 h2, h3⟩⟩
theorem ppr_pfs {l : List (List Int)} {x : List Int} (h : ppr l x = true) : pfs l x = true := by
  obtain ⟨y, h1, h2, _⟩ := ppr_iff.1 h
  exact pfs_iff.2 ⟨y, h1, h2⟩
theorem ppr_none {l : List (List Int)} {x : List Int} (h : pfs l x = false) : ppr l x = false := by
  cases hp : ppr l x with
  | false => rfl
  | true => rw [ppr_pfs hp] at h; cases h
theorem pfF_get (l : List (List Int)) (x : List Int) : (pfF l x).getD false = ppr l x := by
  unfold pfF
  cases h : pfs l x with
  | true => rfl
  | false => rw [ppr_none h]; rfl
theorem pfF_some (l : List (List Int)) (x : List Int) : (pfF l x).isSome = pfs l x := by
  unfold pfF
  cases h : pfs l x <;> rfl
theorem pfF_nil : pfF [] = fun _ => none := by funext x; rfl
/-- In the middle of a word x0: its proper prefixes of at least m symbols are marked. -/
def gst (l : List (List Int)) (x0 : List Int) (m : Nat) : Wf := fun x => if M.pre x x0 = true ∧ m ≤ x.length ∧ x.length < x0.length then some true else if x = x0 then some (ppr l x0) else pfF l x
theorem pfF_snoc (l : List (List Int)) (x0 x : List Int) : pfF (l ++ [x0]) x = if M.pre x x0 = true then (if x = x0 then some (ppr l x0) else some true) else pfF l x := by
  by_cases hp : M.pre x x0 = true
  · rw [if_pos hp]
    have h1 : pfs (l ++ [x0]) x = true := pfs_iff.2 ⟨x0, by simp, pre_iff.1 hp⟩
    unfold pfF
    rw [if_pos h1]
    by_cases e : x = x0
    · subst e
      rw [if_pos rfl]
      congr 1
      unfold ppr
      rw [List.any_append]
      simp
    · rw [if_neg e]
      congr 1
      have h2 := pre_iff.1 hp
      refine ppr_iff.2 ⟨x0, by simp, h2, ?_⟩
      have h3 := h2.length_le
      rcases Nat.lt_or_ge x.length x0.length with h4 | h4
      · exact h4
      · exact absurd (h2.eq_of_length (by omega)) e
  · rw [if_neg hp]
    have hp2 : M.pre x x0 = false := by simpa using hp
    unfold pfF
    have h1 : pfs (l ++ [x0]) x = pfs l x := by unfold pfs; rw [List.any_append]; simp [hp2]
    have h2 : ppr (l ++ [x0]) x = ppr l x := by unfold ppr; rw [List.any_append]; simp [hp2]
    rw [h1, h2]
theorem gst_met {l : List (List Int)} {x0 : List Int} (h : (pfF l x0).isSome = true) : gst l x0 x0.length = pfF l := by
  funext x
  unfold gst
  rw [if_neg (by omega)]
  by_cases e : x = x0
  · subst e
    rw [pfF_some] at h
    rw [if_pos rfl]
    unfold pfF
    rw [if_pos h]
  · rw [if_neg e]
theorem gst_new {l : List (List Int)} {x0 : List Int} (h : (pfF l x0).isSome = false) : gst l x0 x0.length = upd (pfF l) x0 false := by
  funext x
  unfold gst upd
  rw [if_neg (by omega)]
  rw [pfF_some] at h
  rw [ppr_none h]
theorem gst_at {l : List (List Int)} {x0 : List Int} {j : Nat} (hj : j < x0.length) : (gst l x0 (j + 1) (x0.take j)).getD false = ppr l (x0.take j) := by
  have h1 : (x0.take j).length = j := by simp; omega
  unfold gst
  rw [if_neg (by omega), if_neg (fun e => by rw [e] at h1; omega), pfF_get]
theorem gst_put {l : List (List Int)} {x0 : List Int} {j : Nat} (hj : j < x0.length) : upd (gst l x0 (j + 1)) (x0.take j) true = gst l x0 j := by
  have h1 : (x0.take j).length = j := by simp; omega
  funext x
  unfold upd
  by_cases e : x = x0.take j
  · subst e
    rw [if_pos rfl]
    unfold gst
    rw [if_pos ⟨pre_iff.2 (List.take_prefix _ _), by omega, by omega⟩]
  · rw [if_neg e]
    unfold gst
    by_cases hc : M.pre x x0 = true ∧ j + 1 ≤ x.length ∧ x.length < x0.length
    · rw [if_pos hc, if_pos ⟨hc.1, by omega, hc.2.2⟩]
    · rw [if_neg hc]
      by_cases hd : M.pre x x0 = true ∧ j ≤ x.length ∧ x.length < x0.length
      · exfalso
        have hl : x.length = j := by
          rcases Nat.lt_or_ge j x.length with h | h
          · exact absurd ⟨hd.1, h, hd.2.2⟩ hc
          · omega
        apply e
        have := (List.prefix_iff_eq_take.1 (pre_iff.1 hd.1))
        rw [hl] at this
        exact this
      · rw [if_neg hd]
theorem gst_end {l : List (List Int)} {x0 : List Int} : gst l x0 0 = pfF (l ++ [x0]) := by
  funext x
  rw [pfF_snoc]
  unfold gst
  by_cases hp : M.pre x x0 = true
  · have h3 := (pre_iff.1 hp).length_le
    rw [if_pos hp]
    by_cases e : x = x0
    · subst e
      rw [if_neg (by omega), if_pos rfl, if_pos rfl]
    · rw [if_neg e]
      have h4 : x.length < x0.length := by
        rcases Nat.lt_or_ge x.length x0.length with h4 | h4
        · exact h4
        · exact absurd ((pre_iff.1 hp).eq_of_length (by omega)) e
      rw [if_pos ⟨hp, by omega, h4⟩, if_neg e]
  · rw [if_neg hp, if_neg (fun h => hp h.1)]
    rw [if_neg (fun e => hp (by rw [e]; exact pre_iff.2 (List.prefix_refl _)))]
theorem gst_stop {l : List (List Int)} {x0 : List Int} {j : Nat} (hj : j < x0.length) (h : ppr l (x0.take j) = true) : gst l x0 (j + 1) = pfF (l ++ [x0]) := by
  rw [← gst_end]
  obtain ⟨y, h1, h2, h3⟩ := ppr_iff.1 h
  have hl : (x0.take j).length = j := by simp; omega
  funext x
  unfold gst
  by_cases hc : M.pre x x0 = true ∧ j + 1 ≤ x.length ∧ x.length < x0.length
  · rw [if_pos hc, if_pos ⟨hc.1, by omega, hc.2.2⟩]
  · rw [if_neg hc]
    by_cases hd : M.pre x x0 = true ∧ 0 ≤ x.length ∧ x.length < x0.length
    · rw [if_pos hd]
      have hx : x.length ≤ j := by
        rcases Nat.lt_or_ge j x.length with h | h
        · exact absurd ⟨hd.1, h, hd.2.2⟩ hc
        · exact h
      rw [if_neg (fun e => by rw [e] at hx; omega)]
      have hq : ppr l x = true := by
        refine ppr_iff.2 ⟨y, h1, ?_, by omega⟩
        refine List.IsPrefix.trans ?_ h2
        exact List.prefix_of_prefix_length_le (pre_iff.1 hd.1) (List.take_prefix _ _) (by omega)
      unfold pfF
      rw [if_pos (ppr_pfs hq), hq]
    · rw [if_neg hd]
/-! ### The operations on keys -/
theorem key_cut {x : List Int} {n : Nat} (hn : n ≤ x.length) (w : World) : (Instr.slice 9 (keyV x) none (some (.int .i64 n)) none).run Try.prog w = .ok (keyV (x.take n)) w := by
  have hs : (⟨(M.kU x).toArray⟩ : ByteArray).size = x.length := by rw [← M.kU_len x]; simp [ByteArray.size]
  have h1 := run_slice_string_h (P := Try.prog) (t := 9) (s := ⟨(M.kU x).toArray⟩) (w := w) Try.underlying9 .i64 (n : Int) (by omega) (by rw [hs]; omega)
  have e : (⟨(M.kU x).toArray⟩ : ByteArray).extract 0 ((n : Int).toNat) = ⟨(M.kU (x.take n)).toArray⟩ := by
    apply ByteArray.ext
    rw [ByteArray.data_extract]
    rw [← M.kU_take]
    simp
  rw [e] at h1
  exact h1
theorem key_len {x : List Int} (ty : TypeId) (w : World) : (Builtin.len_ #[9] ty #[keyV x]).run Try.prog w = .ok (.int .i64 x.length) w := by
  unfold keyV
  rw [run_len_string _ _ _ _ Try.underlying9]
  have hs : (⟨(M.kU x).toArray⟩ : ByteArray).size = x.length := by rw [← M.kU_len x]; simp [ByteArray.size]
  rw [hs]
  rfl
set_option maxRecDepth 100000 in
set_option maxHeartbeats 2000000 in
theorem prefixes_any (L : Option Addr) (c N : Nat) (rows : List (List Int)) (w : World) (h : RdS w L rows) (hN : rows.length = N) (hm : N ≤ 1000000) (hall : ∀ x ∈ rows, M.By x ∧ x.length ≤ 1000) :
    Calls Try.prog 60 #[.slice L N c] w fun e w' => ∃ b, w.heap.size ≤ b ∧ e = .returned (.map (some b)) ∧ Mp w' b (N * 1001) (pfF rows) ∧ Below w.heap.size w w' := by
  have hmm := @run_makeMap Try.prog
  have HN := Lib.hid hN
  have HH := Lib.hid h
  have HA := Lib.hid hall
  clear hN h hall
  have s1 : Hid (Mp (w.alloc (.map #[] 0)) w.heap.size 0 (pfF (rows.take 0))) := by rw [List.take_zero, pfF_nil]; exact Mp.make w
  have b1 := Lib.hid ((Below.refl w.heap.size w).alloc (Nat.le_refl _) (.map #[] 0))
  go_enter Try.func60, Try.ntmps60
  go_wp2
  go_loopw [13] (fun v wr => ∃ k : Nat, k ≤ N ∧ v = .int .i64 k ∧ Hid (Mp wr w.heap.size (k * 1001) (pfF (rows.take k))) ∧ Hid (Below w.heap.size w wr)) (fun v _ => N - (intOf v).toNat)
  case atStart => exact ⟨0, Nat.zero_le _, rfl, (show Mp _ _ _ _ by simpa using s1.out), b1.out⟩
  case round =>
    obtain ⟨k, hk, rfl, hM, hb⟩ := hrel
    by_cases hlt : k < N
    · have hkl : k < rows.length := by rw [HN.out]; exact hlt
      obtain ⟨b, off, A, cc, m, rfl, _, hc, hrd, hml⟩ := (HH.out.below hb.out).at_ hkl
      have hby := HA.out _ (M.row_mem hkl)
      go_wp2_with fail
      refine (key_any _ _ _ _ _ hrd hml.out (by have := hml.out; omega) hby.1).mono ?_
      rintro e w1 ⟨rfl, hb1⟩
      have hM1 := Lib.hid (hM.out.mv hb1 hM.out.lt)
      have HB := Lib.hid (below_next hb.out hb1)
      have htk := Lib.hid (take_row hkl)
      obtain ⟨x, hx⟩ : ∃ x, M.row rows k = x := ⟨_, rfl⟩
      rw [hx] at hby htk ⊢
      obtain ⟨l, hl⟩ : ∃ l, rows.take k = l := ⟨_, rfl⟩
      rw [hl] at hM1 htk
      obtain ⟨q, hq⟩ : ∃ q, x.length = q := ⟨_, rfl⟩
      have hq1 : q ≤ 1000 := by rw [← hq]; exact hby.2
      have HBY := Lib.hid hby
      have HQ := Lib.hid hq
      have hlen := fun ty w => key_len (x := x) ty w
      rw [hq] at hlen
      clear hb hb1 hc hrd hM hby hx hl hml hq
      have hlk := hM1.out.lookOk HBY.out.1 HBY.out.2
      cases hmet : (pfF l x).isSome with
      | true =>
        have HG : Hid (Mp w1 w.heap.size (k * 1001 + 1) (gst l x q)) := by
          show Mp _ _ _ _
          rw [← HQ.out, gst_met hmet]; exact hM1.out.mono (by omega)
        rw [hmet] at hlk
        clear hM1 hmet
        obtain ⟨r0, hr0⟩ : ∃ r0, (pfF l x).getD false = r0 := ⟨_, rfl⟩
        rw [hr0] at hlk
        clear hr0
        have hlw := fun ty => hlen ty w1
        go_wp2
        go_loopw [9] (fun v wq => ∃ m : Nat, m ≤ q ∧ v = .int .i64 ((m : Int) - 1) ∧ Hid (Mp wq w.heap.size (k * 1001 + 1 + (q - m)) (gst l x m)) ∧ Hid (Below w.heap.size w wq)) (fun v _ => (intOf v + 1).toNat)
        case atStart => exact ⟨q, Nat.le_refl _, by go_num, (show Mp _ _ _ _ by simpa using HG.out), HB.out⟩
        case round =>
          clear HG HB hlk
          obtain ⟨m, hmq, rfl, HG, HB⟩ := hrel
          cases m with
          | zero =>
            have HE : Hid (Mp wr w.heap.size ((k + 1) * 1001) (pfF (rows.take (k + 1)))) := by
              show Mp _ _ _ _
              rw [htk.out, ← gst_end]; exact HG.out.mono (by omega)
            clear HG
            go_wp2
            go_roundw
            case rel => exact ⟨k + 1, by omega, by go_num, HE, HB⟩
            case measure => simp [intOf]; omega
          | succ j =>
            have ej : ((j + 1 : Nat) : Int) - 1 = j := by omega
            rw [ej]
            have hjx : j < x.length := by rw [HQ.out]; omega
            have hcut := fun w => key_cut (x := x) (n := j) (by omega) w
            have hby2 := HBY.out.1.take j
            have hl2 : (x.take j).length ≤ 1000 := by simp; omega
            have hlook := HG.out.look hby2 hl2
            rw [gst_at hjx] at hlook
            have HP := Lib.hid (gst_put (l := l) hjx)
            have HY := Lib.hid (And.intro hby2 hl2)
            clear hby2 hl2
            cases hv : ppr l (x.take j) with
            | true =>
              rw [hv] at hlook
              have HE : Hid (Mp wr w.heap.size ((k + 1) * 1001) (pfF (rows.take (k + 1)))) := by
                show Mp _ _ _ _
                rw [htk.out, ← gst_stop hjx hv]; exact HG.out.mono (by omega)
              clear HG HP hv
              go_wp2
              go_roundw
              case rel => exact ⟨k + 1, by omega, by go_num, HE, HB⟩
              case measure => simp [intOf]; omega
            | false =>
              rw [hv] at hlook
              clear hv
              go_wp2_with (first
                | (refine wpList_mput _ rfl _ _ _ rfl w.heap.size _ (gst l x (j + 1)) rfl HG.out (by unfold maxLen; omega) (x.take j) true rfl rfl HY.out.1 HY.out.2 ?_; intro w3 hM3 hg3)
                | fail)
              have HG2 : Hid (Mp w3 w.heap.size (k * 1001 + 1 + (q - j)) (gst l x j)) := by
                show Mp _ _ _ _
                rw [← HP.out]; exact hM3.mono (by omega)
              have HB2 := Lib.hid (HB.out.grown hg3 HB.out.size (fun j hj => by cases hj; exact Nat.le_refl _))
              clear hM3 hg3 HB HG HP
              go_roundw
              case rel => exact ⟨j, by omega, by go_num, HG2, HB2⟩
              case measure => first | (simp [intOf]; done) | (simp [intOf]; omega)
      | false =>
        rw [hmet] at hlk
        obtain ⟨r0, hr0⟩ : ∃ r0, (pfF l x).getD false = r0 := ⟨_, rfl⟩
        rw [hr0] at hlk
        clear hr0
        go_wp2_with (first
          | (refine wpList_mput _ rfl _ _ _ rfl w.heap.size (k * 1001) (pfF l) rfl hM1.out (by unfold maxLen; omega) x false rfl rfl HBY.out.1 HBY.out.2 ?_; intro w2 hM2 hg2
             have hlw := fun ty => hlen ty w2)
          | fail)
        have HG : Hid (Mp w2 w.heap.size (k * 1001 + 1) (gst l x q)) := by
          show Mp _ _ _ _
          rw [← HQ.out, gst_new hmet]; exact hM2
        have HB2 := Lib.hid (HB.out.grown hg2 HB.out.size (fun j hj => by cases hj; exact Nat.le_refl _))
        clear hM2 hg2 HB hM1 hmet
        have HB := HB2
        clear HB2
        go_loopw [9] (fun v wq => ∃ m : Nat, m ≤ q ∧ v = .int .i64 ((m : Int) - 1) ∧ Hid (Mp wq w.heap.size (k * 1001 + 1 + (q - m)) (gst l x m)) ∧ Hid (Below w.heap.size w wq)) (fun v _ => (intOf v + 1).toNat)
        case atStart => exact ⟨q, Nat.le_refl _, by go_num, (show Mp _ _ _ _ by simpa using HG.out), HB.out⟩
        case round =>
          clear HG HB hlk
          obtain ⟨m, hmq, rfl, HG, HB⟩ := hrel
          cases m with
          | zero =>
            have HE : Hid (Mp wr w.heap.size ((k + 1) * 1001) (pfF (rows.take (k + 1)))) := by
              show Mp _ _ _ _
              rw [htk.out, ← gst_end]; exact HG.out.mono (by omega)
            clear HG
            go_wp2
            go_roundw
            case rel => exact ⟨k + 1, by omega, by go_num, HE, HB⟩
            case measure => simp [intOf]; omega
          | succ j =>
            have ej : ((j + 1 : Nat) : Int) - 1 = j := by omega
            rw [ej]
            have hjx : j < x.length := by rw [HQ.out]; omega
            have hcut := fun w => key_cut (x := x) (n := j) (by omega) w
            have hby2 := HBY.out.1.take j
            have hl2 : (x.take j).length ≤ 1000 := by simp; omega
            have hlook := HG.out.look hby2 hl2
            rw [gst_at hjx] at hlook
            have HP := Lib.hid (gst_put (l := l) hjx)
            have HY := Lib.hid (And.intro hby2 hl2)
            clear hby2 hl2
            cases hv : ppr l (x.take j) with
            | true =>
              rw [hv] at hlook
              have HE : Hid (Mp wr w.heap.size ((k + 1) * 1001) (pfF (rows.take (k + 1)))) := by
                show Mp _ _ _ _
                rw [htk.out, ← gst_stop hjx hv]; exact HG.out.mono (by omega)
              clear HG HP hv
              go_wp2
              go_roundw
              case rel => exact ⟨k + 1, by omega, by go_num, HE, HB⟩
              case measure => simp [intOf]; omega
            | false =>
              rw [hv] at hlook
              clear hv
              go_wp2_with (first
                | (refine wpList_mput _ rfl _ _ _ rfl w.heap.size _ (gst l x (j + 1)) rfl HG.out (by unfold maxLen; omega) (x.take j) true rfl rfl HY.out.1 HY.out.2 ?_; intro w3 hM3 hg3)
                | fail)
              have HG2 : Hid (Mp w3 w.heap.size (k * 1001 + 1 + (q - j)) (gst l x j)) := by
                show Mp _ _ _ _
                rw [← HP.out]; exact hM3.mono (by omega)
              have HB2 := Lib.hid (HB.out.grown hg3 HB.out.size (fun j hj => by cases hj; exact Nat.le_refl _))
              clear hM3 hg3 HB HG HP
              go_roundw
              case rel => exact ⟨j, by omega, by go_num, HG2, HB2⟩
              case measure => first | (simp [intOf]; done) | (simp [intOf]; omega)
    · obtain rfl : k = N := by omega
      have hall : Hid (Mp wr w.heap.size (k * 1001) (pfF rows)) := by
        have := hM.out
        rw [List.take_of_length_le (by rw [HN.out]; omega)] at this
        exact this
      clear hM
      go_wp2
      go_ret
      exact ⟨_, Nat.le_refl _, rfl, hall.out, hb.out⟩
set_option maxRecDepth 100000 in
/-- Reduce's function: whether a word is no proper prefix. -/
theorem reduce1_any (A : Option Addr) (c N : Nat) (x : List Int) (B b n : Nat) (f : Wf) (w : World) (h : Rd w A x) (hN : x.length = N) (hm : N ≤ 1000) (hby : M.By x) (hBl : B < w.heap.size) (hB : w.cell? ⟨B, 0, none⟩ = some (.map (some b))) (hM : Mp w b n f) :
    Calls Try.prog 62 #[.slice A N c, .pointer (some ⟨B, 0, none⟩)] w fun e w' => e = .returned (.bool (!(f x).getD false)) ∧ Below w.heap.size w w' := by
  obtain ⟨r, hr⟩ : ∃ r, (f x).getD false = r := ⟨_, rfl⟩
  have HL := Lib.hid (fun w' (hb : Below w.heap.size w w') => (hM.mv hb hM.lt).look hby (by omega))
  have HK := Lib.hid (fun w' (hb : Below w.heap.size w w') => key_any A c N x w' (h.below hb) hN (by omega) hby)
  have HB := Lib.hid (fun w' (hb : Below w.heap.size w w') => ((bcell hb).1 B 0 hBl).trans hB)
  rw [hr] at HL ⊢
  clear hr h hN hby hM hB
  have bD := (Below.refl w.heap.size w).drew
  have m0 := HB.out _ (Below.refl _ _)
  have m1 := HL.out _ (Below.refl _ _)
  have d1 := HL.out _ bD
  go_enter Try.func62, Try.ntmps62
  go_wp2_with fail
  go_region_held3 (fun W => W.cell? ⟨B, 0, none⟩ = some (.map (some b)) ∧ (Instr.lookup 74 (.map (some b)) (keyV x) false).run Try.prog W = .ok (.bool r) W) (first | exact ⟨n0, n1⟩ | exact ⟨m0, m1⟩ | exact ⟨m0, d1⟩ | go_keep)
    (first
      | (go_at_call 63
         (with_reducible refine (HK.out _ bD).mono ?_)
         rintro e w3 ⟨rfl, hb3⟩
         have bB := below_next bD hb3
         have n0 := HB.out _ bB
         have n1 := HL.out _ bB
         dsimp only)
      | fail)
  go_wp2
  go_ret
  exact ⟨rfl, bB⟩
end Go.Proofs.Ytjodhihcckcefaa
