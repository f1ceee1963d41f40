/-
  Contract: words.Concat of valid words, in a block of its own. No statement is proved here.
-/
import Derived.Test.YtldpfbmkmehadaaSMc1
import Derived.Test.YtldpfbmkmehadaaRg
import Derived.Test.YtldpfbmkmehadaaConcM
import Derived.Deep.OwnRows
import Derived.Laws.CopyOwn
namespace Go.Proofs.Ytldpfbmkmehadaa
open Go.RowKit

/-- make([]int, n): a block of zeros. -/
theorem wpList_make_ints (w : World) {ops : Array Oper} {rest : List Oper} {o : Oper} {a : Act} {Q : Exit → Act → World → Prop}
    (hg : o.guard = none) (l c : Operand) (hop : o.op = Op.makeSlice 36 l c) (L : Int) (n : Nat) (hl : a.eval l = .int .i64 L) (hc : a.eval c = .int .i64 L) (hL : L = (n : Int)) (hn : n ≤ 65537)
    (hK : ∀ w', Hid (Blk w' w.heap.size (List.replicate n 0)) → Below w.heap.size w w' → wpList Try.prog ops Q rest (a.put o.dst (.slice (some ⟨w.heap.size, 0, none⟩) n n)) w') :
    wpList Try.prog ops Q (o :: rest) a w := by
  subst hL
  refine wpList_plain hg fun K hK' => ?_
  have hrun := run_make_row' (P := Try.prog) 36 3 (.int .i64 0) 8 Try.underlying36 int_info rfl .i64 .i64 n (by omega) (by omega) w
  unfold Oper.wp
  simp [execOp, hop, hl, hc, hrun, Result.andThen]
  refine hK' _ _ (hK _ ?_ ((Below.refl _ _).alloc (Nat.le_refl _) _))
  show _ = _
  rw [heap_alloc_new]
  have e := toList_madeCells_one (.int .i64 0) n
  have e2 : madeCells #[.int .i64 0] n = (ints (List.replicate n 0)).toArray := by
    rw [← Array.toList_inj, e]
    simp [ints]
  rw [e2]

/-- A slice value over address L reads as a list of lists. -/
def RdS (w : World) (L : Option Addr) (rows : List (List Int)) : Prop :=
  0 < rows.length → ∃ b off, L = some ⟨b, off, none⟩ ∧ b < w.heap.size ∧ ∀ k, k < rows.length → ∃ A c, w.cell? ⟨b, off + k, none⟩ = some (.slice A (M.row rows k).length c) ∧ Rd w A (M.row rows k)
theorem RdS.below {w w' : World} {L : Option Addr} {rows : List (List Int)} (h : RdS w L rows) (hb : Below w.heap.size w w') : RdS w' L rows := fun hp => by
  obtain ⟨b, off, e, hl, hc⟩ := h hp
  refine ⟨b, off, e, by have := hb.size; omega, fun k hk => ?_⟩
  obtain ⟨A, c, h1, h2⟩ := hc k hk
  exact ⟨A, c, ((bcell hb).1 _ _ hl).trans h1, h2.below hb⟩
theorem RdS.at_ {w : World} {L : Option Addr} {rows : List (List Int)} (h : RdS w L rows) {k : Nat} (hk : k < rows.length) : ∃ b off A c m, L = some ⟨b, off, none⟩ ∧ b < w.heap.size ∧ w.cell? ⟨b, off + k, none⟩ = some (.slice A m c) ∧ Rd w A (M.row rows k) ∧ Hid ((M.row rows k).length = m) := by
  obtain ⟨b, off, e, hl, hc⟩ := h (by omega)
  obtain ⟨A, c, h1, h2⟩ := hc k hk
  exact ⟨b, off, A, c, _, e, hl, h1, h2, rfl⟩
theorem check_at (A : Option Addr) (c m : Nat) (zs : List Int) (n : Int) (w : World) (h : Rd w A zs) (e : zs.length = m) :
    Calls Try.prog 62 #[.slice A m c, .int .i64 n] w fun e w' => e = .returned (.int .i64 (M.check zs n)) ∧ Below w.heap.size w w' := by
  subst e
  exact check_any A c zs n w h

/-- copy(all[at:], w). -/
theorem wpList_copy_part (w : World) {ops : Array Oper} {rest : List Oper} {o : Oper} {a : Act} {Q : Exit → Act → World → Prop} (hgd : o.guard = none) (d s : Operand)
    (ho : o.op = .call { callee := .builtin .copy, args := #[d, s], argTypes := #[36, 36] }) (D A : Option Addr) (n m t g dcap c : Nat) (cur zs : List Int) (hd : a.eval d = .slice D n dcap) (hs : a.eval s = .slice A m c)
    (hB : Blk w g cur) (hcur : t + m ≤ cur.length) (hn : m ≤ n) (hD : 0 < m → D = some ⟨g, t, none⟩) (hr : Rd w A zs) (hzs : zs.length = m) (B : Nat) (w0 : World) (hb : Below B w0 w) (hBg : B ≤ g)
    (h : ∀ w', Hid (Blk w' g (cur.take t ++ (zs ++ cur.drop (t + zs.length)))) → Below B w0 w' → wpList Try.prog ops Q rest (a.put o.dst (goInt m)) w') : wpList Try.prog ops Q (o :: rest) a w := by
  refine wpList_copy_splice hgd d s 36 36 ho 3 Try.underlying36 (by kernel_rfl) D A n dcap m c hd hs g t (ints cur) 3 hB (ints zs) (by rw [ints_len, hzs]; exact (Nat.min_eq_left hn).symm) ?_ (by rw [ints_len, ints_len]; omega) ?_ B w0 hb hBg ?_
  · intro hp
    rw [ints_len] at hp
    obtain ⟨b, off, rfl, hb2, hc⟩ := hr hp
    refine ⟨hD (by omega), _, rfl, fun j v hv => ?_⟩
    have hj : j < zs.length := by
      rcases Nat.lt_or_ge j zs.length with h1 | h1
      · exact h1
      · rw [List.getElem?_eq_none (by rw [ints_len]; exact h1)] at hv; cases hv
    rw [ints_at hj] at hv
    injection hv with hv
    subst hv
    rw [Addr.add_lit]
    exact hc j hj
  · intro v hv
    simp only [ints, List.mem_map] at hv
    obtain ⟨z, _, rfl⟩ := hv
    rfl
  · intro w' hg' hb'
    have e : splice (ints cur) t (ints zs) = ints (cur.take t ++ (zs ++ cur.drop (t + zs.length))) := by simp [splice, ints, List.map_take, List.map_drop]
    rw [e] at hg'
    rw [ints_len, hzs]
    exact h w' hg' hb'

set_option maxRecDepth 100000 in
set_option maxHeartbeats 800000 in
theorem concat_ok (L : Option Addr) (c : Nat) (rows : List (List Int)) (n : Int) (w : World) (h : RdS w L rows) (hr : rows.length ≤ 1000000) (hall : ∀ k, k < rows.length → M.check (M.row rows k) n = 0) (ht : ¬ 256 < M.total rows) :
    Calls Try.prog 54 #[.int .i64 n, .slice L rows.length c] w fun e w' => ∃ g k, e = .returned (.tuple #[.slice (some ⟨g, 0, none⟩) k k, .int .i64 0]) ∧ Hid (rows.flatten.length = k) ∧ w.heap.size ≤ g ∧ Blk w' g rows.flatten ∧ Below w.heap.size w w' := by
  have HA := Lib.hid hall
  clear hall
  go_enter Try.func54, Try.ntmps54
  go_wp2
  go_loopw [6, 16] (fun l i wr => ∃ k : Nat, k ≤ rows.length ∧ i = .int .i64 k ∧ l = .int .i64 (M.total (rows.take k)) ∧ (M.total (rows.take k)) ≤ 256 ∧ Below w.heap.size w wr) (fun _ i _ => rows.length - (intOf i).toNat)
  case atStart => exact ⟨0, Nat.zero_le _, rfl, by simp [M.total], by simp [M.total], Below.refl _ _⟩
  case round =>
    obtain ⟨k, hk, rfl, rfl, htb, hbr⟩ := hrel
    by_cases hlt : k < rows.length
    · obtain ⟨b, off, A, cc, m, rfl, hb, hc, hrd, hm⟩ := (h.below hbr).at_ hlt
      have HT := Lib.hid (M.total_snoc hlt)
      have HTL := Lib.hid (M.total_le (rows := rows) (k + 1))
      have hmb : M.total (rows.take k) + m ≤ 256 := by have h1 := HT.out; have h2 := HTL.out; have h3 := hm.out; omega
      have HQ := Lib.hid (HA.out k hlt)
      go_wp2_with fail
      refine (check_at _ _ _ _ _ _ hrd hm.out).mono ?_
      rintro e w1 ⟨rfl, hb1⟩
      rw [HQ.out]
      go_wp2
      go_roundw
      case rel => exact ⟨k + 1, by omega, by go_num, (by rw [HT.out, hm.out]; go_num), (by rw [HT.out, hm.out]; omega), below_next hbr hb1⟩
      case measure => simp [intOf]; omega
    · obtain rfl : k = rows.length := by omega
      have ek : rows.take rows.length = rows := List.take_of_length_le (Nat.le_refl _)
      rw [ek] at htb ⊢
      clear ek
      have hsz := hbr.size
      obtain ⟨wo, rfl⟩ : ∃ wo : World, wo = wr := ⟨_, rfl⟩
      go_wp2_with (refine wpList_make_ints _ rfl _ _ rfl _ (M.total rows) rfl rfl rfl (by omega) ?_)
      intro w1 hB1 hb1
      go_wp2
      obtain ⟨g, hg⟩ : ∃ g, wo.heap.size = g := ⟨_, rfl⟩
      obtain ⟨T, hT⟩ : ∃ T, M.total rows = T := ⟨_, rfl⟩
      rw [hg] at hB1 ⊢
      rw [hT] at hB1 ht htb ⊢
      have HTT := Lib.hid hT
      have hgB : w.heap.size ≤ g := by omega
      have hbw := below_next hbr hb1
      clear hg hb1 hsz hT
      go_loopw [11, 37] (fun l i wr => ∃ (k t : Nat) (cur : List Int), k ≤ rows.length ∧ i = .int .i64 k ∧ l = .int .i64 t ∧ Hid (M.total (rows.take k) = t) ∧ Hid (Blk wr g cur) ∧ Hid (M.Cat rows k cur) ∧ Below w.heap.size w wr) (fun _ i _ => rows.length - (intOf i).toNat)
      case atStart => exact ⟨0, 0, _, Nat.zero_le _, rfl, rfl, by simp [M.total, Hid], hB1, (by rw [← HTT.out]; exact M.Cat.start rows), hbw⟩
      case round =>
        obtain ⟨k, t, cur, hk, rfl, rfl, ht2, hB, hC, hbr2⟩ := hrel
        clear hB1 hbw hbr
        by_cases hlt : k < rows.length
        · obtain ⟨b, off, A, cc, m, rfl, hb, hc, hrd, hm⟩ := (h.below hbr2).at_ hlt
          have hle := M.total_le (rows := rows) (k + 1)
          have hS := M.total_snoc hlt
          rw [hm.out, ht2.out] at hS
          rw [hS, HTT.out] at hle
          have HS := Lib.hid hS
          have HC := Lib.hid (hC.out.step hlt)
          have hlen := Lib.hid hC.out.len
          rw [hm.out, ht2.out] at HC
          have hmT : t + m ≤ T := by omega
          clear hS ht2
          by_cases hE : T = t
          · subst hE
            go_wp2_with (with_reducible refine wpList_copy_part _ rfl (.tmp 44) (.tmp 45) rfl _ A 0 m T g _ cc cur (M.row rows k) rfl rfl hB.out (by rw [hlen.out, HTT.out]; omega) (by omega) (fun hp => absurd hp (by omega)) hrd hm.out w.heap.size w hbr2 hgB ?_)
            intro w2 hB2 hb2
            rw [hm.out] at hB2
            clear hB hbr2 hc hrd
            go_wp2
            go_roundw
            case rel => exact ⟨k + 1, T + m, _, by omega, by go_num, by go_num, HS, hB2, HC, hb2⟩
            case measure => simp [intOf]; omega
          · go_wp2_with (with_reducible refine wpList_copy_part _ rfl (.tmp 44) (.tmp 45) rfl _ A _ m t g _ cc cur (M.row rows k) rfl rfl hB.out (by rw [hlen.out, HTT.out]; omega) (by omega) (fun hp => rfl) hrd hm.out w.heap.size w hbr2 hgB ?_)
            intro w2 hB2 hb2
            rw [hm.out] at hB2
            clear hB hbr2 hc hrd
            go_wp2
            go_roundw
            case rel => exact ⟨k + 1, t + m, _, by omega, by go_num, by go_num, HS, hB2, HC, hb2⟩
            case measure => simp [intOf]; omega
        · obtain rfl : k = rows.length := by omega
          have HD := Lib.hid hC.out.done
          go_wp2
          go_ret2
          exact ⟨g, T, rfl, HTT, hgB, by rw [← HD.out]; exact hB.out, hbr2⟩
/-- A word and one symbol more. -/
theorem concat_snoc (L : Option Addr) (c : Nat) (x : List Int) (j n : Int) (w : World) (h : RdS w L [x, [j]]) (hx : M.Val n x) (hj : 0 ≤ j ∧ j < n) (hn : 1 ≤ n ∧ n ≤ 16) (hl : x.length < 256) :
    Calls Try.prog 54 #[.int .i64 n, .slice L 2 c] w fun e w' => ∃ g k, e = .returned (.tuple #[.slice (some ⟨g, 0, none⟩) k k, .int .i64 0]) ∧ Hid ((x ++ [j]).length = k) ∧ w.heap.size ≤ g ∧ Blk w' g (x ++ [j]) ∧ Below w.heap.size w w' := by
  have ck : ∀ y : List Int, y.length ≤ 256 → M.Val n y → M.check y n = 0 := fun y hy hv => by
    rw [M.check_in hn.2 (by omega) hn.1]
    refine M.badI_clean ?_
    rw [List.any_eq_false]
    intro c hc
    have := hv c hc
    simp [M.badB]
    omega
  have e := concat_ok L c [x, [j]] n w h (by simp) (fun k hk => by
    match k, hk with
    | 0, _ => exact ck x (by omega) hx
    | 1, _ => exact ck [j] (by simp) (fun c hc => by simp at hc; subst hc; exact hj)
    | k + 2, hk => exact absurd hk (by simp only [List.length_cons, List.length_nil]; omega)) (by simp [M.total]; omega)
  simpa using e
end Go.Proofs.Ytldpfbmkmehadaa
