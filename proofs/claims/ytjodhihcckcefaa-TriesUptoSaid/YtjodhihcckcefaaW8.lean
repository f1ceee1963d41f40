/-
  Contracts: words.Concat.
-/
import Derived.Test.YtjodhihcckcefaaW6
import Derived.Test.YtjodhihcckcefaaBaZ
namespace Go.Proofs.Ytjodhihcckcefaa
open Go.RowKit

/-- A slice value over address L reads as a list of lists. -/
def RdS (w : World) (L : Option Addr) (rows : List (List Int)) : Prop :=
  0 < rows.length → ∃ b off, L = some ⟨b, off, none⟩ ∧ b < w.heap.size ∧ ∀ k, k < rows.length → ∃ A c, w.cell? ⟨b, off + k, none⟩ = some (.slice A (M.row rows k).length c) ∧ Rd w A (M.row rows k)
theorem RdS.below {w w' : World} {L : Option Addr} {rows : List (List Int)} (h : RdS w L rows) (hb : Below w.heap.size w w') : RdS w' L rows := fun hp => by
  obtain ⟨b, off, e, hl, hc⟩ := h hp
  refine ⟨b, off, e, by have := hb.size; omega, fun k hk => ?_⟩
  obtain ⟨A, c, h1, h2⟩ := hc k hk
  exact ⟨A, c, ((bcell hb).1 _ _ hl).trans h1, h2.below hb⟩
theorem RdS.at_ {w : World} {L : Option Addr} {rows : List (List Int)} (h : RdS w L rows) {k : Nat} (hk : k < rows.length) : ∃ b off A c m, L = some ⟨b, off, none⟩ ∧ b < w.heap.size ∧ w.cell? ⟨b, off + k, none⟩ = some (.slice A m c) ∧ Rd w A (M.row rows k) ∧ Hid ((M.row rows k).length = m) := by
  obtain ⟨b, off, e, hl, hc⟩ := h (by omega)
  obtain ⟨A, c, h1, h2⟩ := hc k hk
  exact ⟨b, off, A, c, _, e, hl, h1, h2, rfl⟩
theorem check_at (A : Option Addr) (c m : Nat) (zs : List Int) (n : Int) (w : World) (h : Rd w A zs) (e : zs.length = m) :
    Calls Try.prog 49 #[.slice A m c, .int .i64 n] w fun e w' => e = .returned (.int .i64 (M.check zs n)) ∧ Below w.heap.size w w' := by
  subst e
  exact check_any A c zs n w h

/-- copy(all[at:], w). -/
theorem wpList_copy_part (w : World) {ops : Array Oper} {rest : List Oper} {o : Oper} {a : Act} {Q : Exit → Act → World → Prop} (hgd : o.guard = none) (d s : Operand)
    (ho : o.op = .call { callee := .builtin .copy, args := #[d, s], argTypes := #[23, 23] }) (D A : Option Addr) (n m t g dcap c : Nat) (cur zs : List Int) (hd : a.eval d = .slice D n dcap) (hs : a.eval s = .slice A m c)
    (hB : Blk w g cur) (hcur : t + m ≤ cur.length) (hn : m ≤ n) (hD : 0 < m → D = some ⟨g, t, none⟩) (hr : Rd w A zs) (hzs : zs.length = m) (B : Nat) (w0 : World) (hb : Below B w0 w) (hBg : B ≤ g)
    (h : ∀ w', Hid (Blk w' g (cur.take t ++ (zs ++ cur.drop (t + zs.length)))) → Below B w0 w' → wpList Try.prog ops Q rest (a.put o.dst (goInt m)) w') : wpList Try.prog ops Q (o :: rest) a w := by
  refine wpList_copy_splice hgd d s 23 23 ho 3 Try.underlying23 (by kernel_rfl) D A n dcap m c hd hs g t (ints cur) 3 hB (ints zs) (by rw [ints_len, hzs]; exact (Nat.min_eq_left hn).symm) ?_ (by rw [ints_len, ints_len]; omega) ?_ B w0 hb hBg ?_
  · intro hp
    rw [ints_len] at hp
    obtain ⟨b, off, rfl, hb2, hc⟩ := hr hp
    refine ⟨hD (by omega), _, rfl, fun j v hv => ?_⟩
    have hj : j < zs.length := by
      rcases Nat.lt_or_ge j zs.length with h1 | h1
      · exact h1
      · rw [List.getElem?_eq_none (by rw [ints_len]; exact h1)] at hv; cases hv
    rw [ints_at hj] at hv
    injection hv with hv
    subst hv
    rw [Addr.add_lit]
    exact hc j hj
  · intro v hv
    simp only [ints, List.mem_map] at hv
    obtain ⟨z, _, rfl⟩ := hv
    rfl
  · intro w' hg' hb'
    have e : splice (ints cur) t (ints zs) = ints (cur.take t ++ (zs ++ cur.drop (t + zs.length))) := by simp [splice, ints, List.map_take, List.map_drop]
    rw [e] at hg'
    rw [ints_len, hzs]
    exact h w' hg' hb'

theorem Made.mk {w w' : World} {zs xs : List Int} {f g : Int} {A : Option Addr} {m : Nat} (h1 : xs = zs) (h2 : g = f) (hm : zs.length = m) (hr : Rd w' A zs) (hb : Below w.heap.size w w') : Made w xs g (.returned (.tuple #[.slice A m m, .int .i64 f])) w' := by
  subst h1 h2 hm
  exact ⟨A, rfl, hr, hb⟩

set_option maxRecDepth 100000 in
set_option maxHeartbeats 800000 in
theorem concat_any (L : Option Addr) (c : Nat) (rows : List (List Int)) (n : Int) (w : World) (h : RdS w L rows) (hr : rows.length ≤ 1000000) (hall : ∀ k, (M.row rows k).length ≤ 1000000) :
    Calls Try.prog 68 #[.int .i64 n, .slice L rows.length c] w (Made w (M.catV n rows) (M.catE n rows)) := by
  have HA := Lib.hid hall
  clear hall
  go_enter Try.func68, Try.ntmps68
  go_wp2
  go_loopw [6, 16] (fun l i wr => ∃ k : Nat, k ≤ rows.length ∧ i = .int .i64 k ∧ l = .int .i64 (M.total (rows.take k)) ∧ (M.total (rows.take k)) ≤ k * 1000000 ∧ Hid (M.ferr n (rows.take k) = 0) ∧ Below w.heap.size w wr) (fun _ i _ => rows.length - (intOf i).toNat)
  case atStart => exact ⟨0, Nat.zero_le _, rfl, by simp [M.total], by simp [M.total], by simp [Hid, M.ferr], Below.refl _ _⟩
  case round =>
    obtain ⟨k, hk, rfl, rfl, htb, hF, hbr⟩ := hrel
    by_cases hlt : k < rows.length
    · obtain ⟨b, off, A, cc, m, rfl, hb, hc, hrd, hm⟩ := (h.below hbr).at_ hlt
      have hmb : m ≤ 1000000 := by rw [← hm.out]; exact HA.out k
      have HT := Lib.hid (M.total_snoc hlt)
      by_cases hq : M.check (M.row rows k) n = 0
      · have HQ := Lib.hid hq
        have HF := Lib.hid (M.ferr_snoc hlt hF.out hq)
        clear hq
        go_wp2_with fail
        refine (check_at _ _ _ _ _ _ hrd hm.out).mono ?_
        rintro e w1 ⟨rfl, hb1⟩
        rw [HQ.out]
        go_wp2
        go_roundw
        case rel => exact ⟨k + 1, by omega, by go_num, (by rw [HT.out, hm.out]; go_num), (by rw [HT.out, hm.out]; omega), HF, below_next hbr hb1⟩
        case measure => simp [intOf]; omega
      · obtain ⟨q, hqq⟩ : ∃ q, M.check (M.row rows k) n = q := ⟨_, rfl⟩
        have hq0 : q ≠ 0 := by rw [← hqq]; exact hq
        obtain ⟨e1, e2⟩ := M.cat_err (M.ferr_hit hlt hF.out hqq hq0) hq0
        have E1 := Lib.hid e1
        have E2 := Lib.hid e2
        have HQ := Lib.hid hqq
        have hq1 : (q != 0) = true := by simpa using hq0
        clear e1 e2 hqq hq hq0
        go_wp2_with fail
        refine (check_at _ _ _ _ _ _ hrd hm.out).mono ?_
        rintro e w1 ⟨rfl, hb1⟩
        rw [HQ.out]
        go_wp2
        go_ret2
        exact Made.mk E2.out E1.out rfl Rd.nil_ (below_next hbr hb1)
    · obtain rfl : k = rows.length := by omega
      have ek : rows.take rows.length = rows := List.take_of_length_le (Nat.le_refl _)
      rw [ek] at hF htb ⊢
      clear ek
      by_cases ht : 256 < M.total rows
      · obtain ⟨e1, e2⟩ := M.cat_limit hF.out ht
        have E1 := Lib.hid e1
        have E2 := Lib.hid e2
        clear e1 e2
        go_wp2
        go_ret2
        exact Made.mk E2.out E1.out rfl Rd.nil_ hbr
      · obtain ⟨e1, e2⟩ := M.cat_ok hF.out ht
        have E1 := Lib.hid e1
        have E2 := Lib.hid e2
        have hsz := hbr.size
        clear e1 e2
        obtain ⟨wo, rfl⟩ : ∃ wo : World, wo = wr := ⟨_, rfl⟩
        go_wp2_with (refine wpList_make_ints _ rfl _ _ rfl _ (M.total rows) rfl rfl rfl (by omega) ?_)
        intro w1 hB1 hb1
        go_wp2
        obtain ⟨g, hg⟩ : ∃ g, wo.heap.size = g := ⟨_, rfl⟩
        obtain ⟨T, hT⟩ : ∃ T, M.total rows = T := ⟨_, rfl⟩
        rw [hg] at hB1 ⊢
        rw [hT] at hB1 ht htb ⊢
        have HTT := Lib.hid hT
        have hgB : w.heap.size ≤ g := by omega
        have hbw := below_next hbr hb1
        clear hg hb1 hsz hT
        go_loopw [11, 37] (fun l i wr => ∃ (k t : Nat) (cur : List Int), k ≤ rows.length ∧ i = .int .i64 k ∧ l = .int .i64 t ∧ Hid (M.total (rows.take k) = t) ∧ Hid (Blk wr g cur) ∧ Hid (M.Cat rows k cur) ∧ Below w.heap.size w wr) (fun _ i _ => rows.length - (intOf i).toNat)
        case atStart => exact ⟨0, 0, _, Nat.zero_le _, rfl, rfl, by simp [M.total, Hid], hB1, (by rw [← HTT.out]; exact M.Cat.start rows), hbw⟩
        case round =>
          obtain ⟨k, t, cur, hk, rfl, rfl, ht2, hB, hC, hbr2⟩ := hrel
          clear hB1 hbw hbr
          by_cases hlt : k < rows.length
          · obtain ⟨b, off, A, cc, m, rfl, hb, hc, hrd, hm⟩ := (h.below hbr2).at_ hlt
            have hle := M.total_le (rows := rows) (k + 1)
            have hS := M.total_snoc hlt
            rw [hm.out, ht2.out] at hS
            rw [hS, HTT.out] at hle
            have HS := Lib.hid hS
            have HC := Lib.hid (hC.out.step hlt)
            have hlen := Lib.hid hC.out.len
            rw [hm.out, ht2.out] at HC
            have hmT : t + m ≤ T := by omega
            clear hS ht2
            by_cases hE : T = t
            · subst hE
              go_wp2_with (with_reducible refine wpList_copy_part _ rfl (.tmp 44) (.tmp 45) rfl _ A 0 m T g _ cc cur (M.row rows k) rfl rfl hB.out (by rw [hlen.out, HTT.out]; omega) (by omega) (fun hp => absurd hp (by omega)) hrd hm.out w.heap.size w hbr2 hgB ?_)
              intro w2 hB2 hb2
              rw [hm.out] at hB2
              clear hB hbr2 hc hrd
              go_wp2
              go_roundw
              case rel => exact ⟨k + 1, T + m, _, by omega, by go_num, by go_num, HS, hB2, HC, hb2⟩
              case measure => simp [intOf]; omega
            · go_wp2_with (with_reducible refine wpList_copy_part _ rfl (.tmp 44) (.tmp 45) rfl _ A _ m t g _ cc cur (M.row rows k) rfl rfl hB.out (by rw [hlen.out, HTT.out]; omega) (by omega) (fun hp => rfl) hrd hm.out w.heap.size w hbr2 hgB ?_)
              intro w2 hB2 hb2
              rw [hm.out] at hB2
              clear hB hbr2 hc hrd
              go_wp2
              go_roundw
              case rel => exact ⟨k + 1, t + m, _, by omega, by go_num, by go_num, HS, hB2, HC, hb2⟩
              case measure => simp [intOf]; omega
          · obtain rfl : k = rows.length := by omega
            have HD := Lib.hid hC.out.done
            go_wp2
            go_ret2
            refine Made.mk E2.out E1.out ?_ (by rw [← HD.out]; exact hB.out.rd) hbr2
            exact HTT.out
end Go.Proofs.Ytjodhihcckcefaa
