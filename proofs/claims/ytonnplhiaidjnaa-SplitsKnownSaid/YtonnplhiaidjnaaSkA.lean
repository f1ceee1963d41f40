/-
  Several texts in one: SC1, SMem, SC2, SC3. No statement is proved here.
-/
import Derived.Test.YtonnplhiaidjnaaSMc9
import Derived.Test.YtonnplhiaidjnaaSwZ
import Derived.Test.YtonnplhiaidjnaaProg
import Derived.Test.YtonnplhiaidjnaaBaZ
import Derived.Test.YtonnplhiaidjnaaRmZ
import Derived.Outline
import Derived.Deep.LoopGhost
import Derived.Deep.QuietTactic
import Derived.BigQuiet
import Derived.Maps.AppendAt
import Derived.RegionTactic
import Derived.Deep.OwnRows
import Derived.Laws.CopyOwn
import Derived.Lib.SmallJoins
import Derived.Deep.RegionWith
import Derived.Deep.AppendLies
import Derived.Deep.RegionLaw
import Derived.BigRegion
namespace Go.Proofs.Ytonnplhiaidjnaa
open Go.RowKit

namespace M
/-- What Count returns. -/
def cntV (p : List Int) : Int := if pck p = 0 then cnt p else 0
theorem cntV_err {p : List Int} {q : Int} (h : pck p = q) (h1 : q ≠ 0) : cntV p = 0 := by rw [cntV, if_neg (by omega)]
theorem cntV_ok {p : List Int} (h : pck p = 0) : cntV p = cnt p := by rw [cntV, if_pos h]
end M
theorem ret_two {a b c d : Int} (h1 : a = c) (h2 : b = d) : Ending.returned (.tuple #[.int .i64 a, .int .i64 b]) = .returned (.tuple #[.int .i64 c, .int .i64 d]) := by rw [h1, h2]

set_option maxHeartbeats 400000 in
theorem count_any (A : Option Addr) (c : Nat) (zs : List Int) (w : World) (h : Rd w A zs) :
    Calls Try.prog 77 #[.slice A zs.length c] w fun e w' => e = .returned (.tuple #[.int .i64 (M.cntV zs), .int .i64 (M.pck zs)]) ∧ Below w.heap.size w w' := by
  by_cases h1 : 256 < zs.length
  · have hf : Hid (M.pck zs = 3) := M.pck_limit h1
    go_enter Try.func77, Try.ntmps77
    go_wp2
    go_ret2
    exact ⟨ret_two (M.cntV_err hf.out (by omega)).symm hf.out.symm, Below.refl _ _⟩
  · go_enter Try.func77, Try.ntmps77
    go_wp2
    go_loop [4, 12] (fun d i => ∃ k m : Nat, k ≤ zs.length ∧ i = .int .i64 k ∧ d = .int .i64 m ∧ m ≤ k ∧ Hid (M.cnt (zs.take k) = m) ∧ Hid (M.Vd (zs.take k))) (fun _ i => zs.length - (intOf i).toNat)
    case atStart => exact ⟨0, 0, Nat.zero_le _, rfl, rfl, Nat.zero_le _, by simp [Hid, M.cnt_nil], M.Vd.nil_⟩
    case round =>
      obtain ⟨k, m, hk, rfl, rfl, hmk, hm, hv⟩ := hrel
      by_cases hlt : k < zs.length
      · obtain ⟨b, off, z, rfl, hb, hc, hz⟩ := h.at_ hlt
        have hz : Hid (M.gz zs k = z) := hz
        by_cases hbad : z < 0 ∨ (m : Int) < z
        · have hp : Hid (M.pck zs = 1) := M.pck_arg (by omega) (M.cnt_bad hlt hv.out (by rw [hz.out, hm.out]; exact hbad))
          rcases hbad with h2 | h2
          · go_wp2
            go_ret2
            exact ⟨ret_two (M.cntV_err hp.out (by omega)).symm hp.out.symm, Below.refl _ _⟩
          · have h3 : ¬ z < 0 := by omega
            go_wp2
            go_ret2
            exact ⟨ret_two (M.cntV_err hp.out (by omega)).symm hp.out.symm, Below.refl _ _⟩
        · have h2 : ¬ z < 0 := by omega
          have h3 : ¬ (m : Int) < z := by omega
          have hv' : Hid (M.Vd (zs.take (k + 1))) := M.cnt_good hlt hv.out (by rw [hz.out]; omega) (by rw [hz.out, hm.out]; omega)
          by_cases he : z = m
          · subst he
            have hm' : Hid (M.cnt (zs.take (k + 1)) = m + 1) := by
              have := hv.out.cnt_next (z := (m : Int)) (by rw [hm.out])
              rw [← hz.out, ← M.take_gz hlt, hm.out] at this
              exact this
            clear hbad hm hv
            go_wp2
            go_round
            case rel => exact ⟨k + 1, m + 1, by omega, by go_num, by go_num, by omega, hm', hv'⟩
            case measure => simp [intOf]; omega
          · have hm' : Hid (M.cnt (zs.take (k + 1)) = m) := by
              have := hv.out.cnt_same (z := z) (by omega) (by rw [hm.out]; omega)
              rw [← hz.out, ← M.take_gz hlt, hm.out] at this
              exact this
            clear hbad hm hv
            go_wp2
            go_round
            case rel => exact ⟨k + 1, m, by omega, by go_num, rfl, by omega, hm', hv'⟩
            case measure => simp [intOf]; omega
      · have hk2 : zs.take k = zs := List.take_of_length_le (by omega)
        have hv := hv.out
        have hm := hm.out
        rw [hk2] at hv hm
        have hf : Hid (M.pck zs = 0) := M.pck_ok (by omega) hv
        have hc : Hid (M.cntV zs = m) := by rw [Hid, M.cntV_ok hf.out, hm]
        clear hv hm hk2
        go_wp2
        go_ret2
        exact ⟨ret_two hc.out.symm hf.out.symm, Below.refl _ _⟩

theorem kcheck_any (A : Option Addr) (c : Nat) (zs : List Int) (w : World) (h : Rd w A zs) :
    Calls Try.prog 55 #[.slice A zs.length c] w fun e w' => e = .returned (.int .i64 (M.pck zs)) ∧ Below w.heap.size w w' := by
  go_enter Try.func55, Try.ntmps55
  go_wp2_with fail
  refine (count_any _ _ _ _ h).mono ?_
  rintro e w1 ⟨rfl, hb1⟩
  go_wp2
  go_ret
  exact ⟨rfl, hb1⟩

theorem Rd.cl {w : World} {b off : Nat} {zs : List Int} (h : Rd w (some ⟨b, off, none⟩) zs) {k : Nat} (hk : k < zs.length) : ∃ z, b < w.heap.size ∧ w.cell? ⟨b, off + k, none⟩ = some (.int .i64 z) ∧ Hid (M.gz zs k = z) := by
  obtain ⟨b', off', e, hb, hc⟩ := h (by omega)
  injection e with e
  injection e with e1 e2
  subst e1 e2
  exact ⟨_, hb, hc k hk, rfl⟩
theorem Rd.opn {w : World} {A : Option Addr} {zs : List Int} (h : Rd w A zs) (hp : 0 < zs.length) : ∃ b off, A = some ⟨b, off, none⟩ := by
  obtain ⟨b, off, e, _, _⟩ := h hp
  exact ⟨b, off, e⟩

set_option maxHeartbeats 400000 in
theorem rcount_any (A : Option Addr) (c : Nat) (zs : List Int) (w : World) (h : Rd w A zs) (hv : M.Vd zs) (hm : zs.length ≤ 1000) :
    Calls Try.prog 31 #[.slice A zs.length c] w fun e w' => e = .returned (.int .i64 (M.cnt zs)) ∧ Below w.heap.size w w' := by
  have HV := Lib.hid hv
  clear hv
  go_enter Try.func31, Try.ntmps31
  go_wp2
  go_loopw [3, 4] (fun d i wr => ∃ k m : Nat, k ≤ zs.length ∧ i = .int .i64 k ∧ d = .int .i64 m ∧ m ≤ k ∧ Hid (M.cnt (zs.take k) = m) ∧ Below w.heap.size w wr) (fun _ i _ => zs.length - (intOf i).toNat)
  case atStart => exact ⟨0, 0, Nat.zero_le _, rfl, rfl, Nat.zero_le _, by simp [Hid, M.cnt_nil], Below.refl _ _⟩
  case round =>
    obtain ⟨k, m, hk, rfl, rfl, hmk, hm, hbr⟩ := hrel
    by_cases hlt : k < zs.length
    · obtain ⟨b, off, rfl⟩ := h.opn (by omega)
      obtain ⟨z, hb, hc, hz⟩ := (h.below hbr).cl hlt
      by_cases he : (m : Int) ≤ z
      · have hm' := M.count_up HV.out hlt (by rw [hm.out, hz.out]; exact he)
        rw [hz.out] at hm'
        have hz0 := (M.vd_gz HV.out hlt)
        rw [hz.out] at hz0
        obtain ⟨hz0, hz1⟩ := hz0
        have hm2 : M.cnt (zs.take (k + 1)) ≤ k + 1 := M.cnt_take_le _ _
        obtain ⟨u, rfl⟩ : ∃ u : Nat, z = u := ⟨z.toNat, by omega⟩
        have hm3 : Hid (M.cnt (zs.take (k + 1)) = u + 1) := by rw [Hid]; omega
        clear hm hm'
        go_wp2
        go_roundw
        case rel => exact ⟨k + 1, u + 1, by omega, by go_num, by go_num, by have := hm3.out; omega, hm3, hbr⟩
        case measure => simp [intOf]; omega
      · have hm' : Hid (M.cnt (zs.take (k + 1)) = m) := (M.count_same HV.out hlt (by rw [hm.out, hz.out]; exact he)).trans hm.out
        clear hm
        go_wp2
        go_roundw
        case rel => exact ⟨k + 1, m, by omega, by go_num, rfl, by omega, hm', hbr⟩
        case measure => simp [intOf]; omega
    · have hk2 : zs.take k = zs := List.take_of_length_le (by omega)
      have hm := hm.out
      rw [hk2] at hm
      have hm := Lib.hid hm
      clear hk2
      go_wp2
      go_ret
      exact ⟨ret_int (by rw [hm.out]), hbr⟩
end Go.Proofs.Ytonnplhiaidjnaa

namespace Go.Proofs.Ytonnplhiaidjnaa
open Go.RowKit

/-- A list in new memory, without spare capacity. -/
def Exact (w : World) (zs : List Int) (e : Ending) (w' : World) : Prop := ∃ A, e = .returned (.slice A zs.length zs.length) ∧ Rd w' A zs ∧ Below w.heap.size w w'
/-- The same with an error beside it. -/
def Made (w : World) (zs : List Int) (f : Int) (e : Ending) (w' : World) : Prop := ∃ A, e = .returned (.tuple #[.slice A zs.length zs.length, .int .i64 f]) ∧ Rd w' A zs ∧ Below w.heap.size w w'

/-- Block g is known whole: the ints cs. -/
def Blk (w : World) (g : Nat) (cs : List Int) : Prop := w.heap[g]? = some (.cells (ints cs).toArray 3 (0, 0))
section
variable {w w' : World} {g : Nat} {cs : List Int}
theorem Blk.lt (h : Blk w g cs) : g < w.heap.size := by
  rcases Nat.lt_or_ge g w.heap.size with hlt | hge
  · exact hlt
  · unfold Blk at h; rw [Array.getElem?_eq_none hge] at h; cases h
theorem Blk.cell (h : Blk w g cs) {k : Nat} (hk : k < cs.length) : w.cell? ⟨g, k, none⟩ = some (.int .i64 (cs[k]?.getD 0)) := by
  rw [cell_of_row w g k _ 3 (0, 0) h]
  simpa using ints_at hk
theorem Blk.at_ (h : Blk w g cs) {k : Nat} (hk : k < cs.length) : ∃ z, w.cell? ⟨g, k, none⟩ = some (.int .i64 z) ∧ w.frozen? ⟨g, k, none⟩ = false ∧ Hid (cs[k]?.getD 0 = z) := by
  refine ⟨_, h.cell hk, ?_, rfl⟩
  unfold Blk at h
  simp [World.frozen?, h]
theorem Blk.set_ (h : Blk w g cs) (k : Nat) (v : Int) : Blk (w.setCell ⟨g, k, none⟩ (.int .i64 v)) g (cs.set k v) := by
  unfold Blk at h ⊢
  simp [World.setCell, Array.getElem?_modify, h, ints, List.map_set]
theorem Blk.drewN (h : Blk w g cs) (n : Nat) : Blk (w.drewN n) g cs := h
theorem Blk.below {B : Nat} (h : Blk w g cs) (hb : Below B w w') (hg : g < B) : Blk w' g cs := (hb.block g hg).trans h
theorem Blk.rd (h : Blk w g cs) : Rd w (some ⟨g, 0, none⟩) cs := Rd.of_block h
end

/-- make([]int, n): a block of zeros. -/
theorem wpList_make_ints (w : World) {ops : Array Oper} {rest : List Oper} {o : Oper} {a : Act} {Q : Exit → Act → World → Prop}
    (hg : o.guard = none) (l c : Operand) (hop : o.op = Op.makeSlice 29 l c) (L : Int) (n : Nat) (hl : a.eval l = .int .i64 L) (hc : a.eval c = .int .i64 L) (hL : L = (n : Int)) (hn : n ≤ 65537)
    (hK : ∀ w', Hid (Blk w' w.heap.size (List.replicate n 0)) → Below w.heap.size w w' → wpList Try.prog ops Q rest (a.put o.dst (.slice (some ⟨w.heap.size, 0, none⟩) n n)) w') :
    wpList Try.prog ops Q (o :: rest) a w := by
  subst hL
  refine wpList_plain hg fun K hK' => ?_
  have hrun := run_make_row' (P := Try.prog) 29 3 (.int .i64 0) 8 Try.underlying29 int_info rfl .i64 .i64 n (by omega) (by omega) w
  unfold Oper.wp
  simp [execOp, hop, hl, hc, hrun, Result.andThen]
  refine hK' _ _ (hK _ ?_ ((Below.refl _ _).alloc (Nat.le_refl _) _))
  show _ = _
  rw [heap_alloc_new]
  have e := toList_madeCells_one (.int .i64 0) n
  have e2 : madeCells #[.int .i64 0] n = (ints (List.replicate n 0)).toArray := by
    rw [← Array.toList_inj, e]
    simp [ints]
  rw [e2]

def rowL (rows : List (List Int)) (k : Nat) : List Int := rows[k]?.getD []
/-- A slice value over address L reads as a list of lists. -/
def RdS (w : World) (L : Option Addr) (rows : List (List Int)) : Prop :=
  0 < rows.length → ∃ b off, L = some ⟨b, off, none⟩ ∧ b < w.heap.size ∧ ∀ k, k < rows.length → ∃ A c, w.cell? ⟨b, off + k, none⟩ = some (.slice A (rowL rows k).length c) ∧ Rd w A (rowL rows k)
theorem RdS.below {w w' : World} {L : Option Addr} {rows : List (List Int)} (h : RdS w L rows) (hb : Below w.heap.size w w') : RdS w' L rows := fun hp => by
  obtain ⟨b, off, e, hl, hc⟩ := h hp
  refine ⟨b, off, e, by have := hb.size; omega, fun k hk => ?_⟩
  obtain ⟨A, c, h1, h2⟩ := hc k hk
  exact ⟨A, c, ((bcell hb).1 _ _ hl).trans h1, h2.below hb⟩
theorem RdS.at_ {w : World} {L : Option Addr} {rows : List (List Int)} (h : RdS w L rows) {k : Nat} (hk : k < rows.length) : ∃ b off A c m, L = some ⟨b, off, none⟩ ∧ b < w.heap.size ∧ w.cell? ⟨b, off + k, none⟩ = some (.slice A m c) ∧ Rd w A (rowL rows k) ∧ Hid ((rowL rows k).length = m) := by
  obtain ⟨b, off, e, hl, hc⟩ := h (by omega)
  obtain ⟨A, c, h1, h2⟩ := hc k hk
  exact ⟨b, off, A, c, _, e, hl, h1, h2, rfl⟩
theorem Made.mk {w w' : World} {zs xs : List Int} {f g : Int} {A : Option Addr} {m : Nat} (h1 : xs = zs) (h2 : g = f) (hm : zs.length = m) (hr : Rd w' A zs) (hb : Below w.heap.size w w') : Made w xs g (.returned (.tuple #[.slice A m m, .int .i64 f])) w' := by
  subst h1 h2 hm
  exact ⟨A, rfl, hr, hb⟩

theorem str_info : (Try.prog.info? 9).map (fun i => (i.zero, i.size, i.bytes)) = some (some (.string ⟨#[]⟩), 1, 16) := by kernel_rfl
/-- Block g is known whole: the strings ss. -/
def BlkS (w : World) (g : Nat) (ss : List ByteArray) : Prop := w.heap[g]? = some (.cells (ss.map Value.string).toArray 9 (0, 0))
section
variable {w w' : World} {g : Nat} {ss : List ByteArray}
theorem BlkS.lt (h : BlkS w g ss) : g < w.heap.size := by
  rcases Nat.lt_or_ge g w.heap.size with hlt | hge
  · exact hlt
  · unfold BlkS at h; rw [Array.getElem?_eq_none hge] at h; cases h
theorem BlkS.cell (h : BlkS w g ss) (k : Nat) (x : ByteArray) (hx : ss[k]? = some x) : w.cell? ⟨g, 0 + k, none⟩ = some (.string x) := by
  rw [cell_of_row w g (0 + k) _ 9 (0, 0) h, Nat.zero_add]
  simp [hx]
theorem BlkS.at_ (h : BlkS w g ss) {k : Nat} (hk : k < ss.length) : ∃ x, w.cell? ⟨g, k, none⟩ = some (.string x) ∧ w.frozen? ⟨g, k, none⟩ = false ∧ Hid (ss[k]? = some x) := by
  have e := List.getElem?_eq_getElem hk
  refine ⟨ss[k], ?_, ?_, e⟩
  · have := h.cell k _ e
    rwa [Nat.zero_add] at this
  · unfold BlkS at h
    simp [World.frozen?, h]
theorem BlkS.set_ (h : BlkS w g ss) (k : Nat) (v : ByteArray) : BlkS (w.setCell ⟨g, k, none⟩ (.string v)) g (ss.set k v) := by
  unfold BlkS at h ⊢
  simp [World.setCell, Array.getElem?_modify, h, List.map_set]
theorem BlkS.far (h : BlkS w g ss) {g2 : Nat} (hg : g ≠ g2) (k : Nat) (u : Value) : BlkS (w.setCell ⟨g2, k, none⟩ u) g ss := (Below.heap_setCell w ⟨g2, k, none⟩ u g hg).trans h
theorem BlkS.below {B : Nat} (h : BlkS w g ss) (hb : Below B w w') (hg : g < B) : BlkS w' g ss := (hb.block g hg).trans h
end
end Go.Proofs.Ytonnplhiaidjnaa

namespace Go.Proofs.Ytonnplhiaidjnaa
open Go.RowKit

/-- The places before i have their numbers. -/
def Okp (zs : List Int) (i : Nat) : Prop := ∀ j, j < i → M.gz zs j = M.gz (M.ofL zs) j
theorem Okp.start (zs : List Int) : Okp zs 0 := fun j h => absurd h (by omega)
theorem Okp.step {zs : List Int} {i : Nat} (h : Okp zs i) (h1 : M.gz zs i = M.gz (M.ofL zs) i) : Okp zs (i + 1) := fun j hj => by
  rcases Nat.lt_or_ge j i with h2 | h2
  · exact h j h2
  · have : j = i := by omega
    subst this; exact h1

set_option maxHeartbeats 1000000 in
theorem rcheck_in (b off : Nat) (c : Nat) (zs : List Int) (w : World) (h : Rd w (some ⟨b, off, none⟩) zs) (h1 : zs.length ≤ 256) :
    Calls Try.prog 62 #[.slice (some ⟨b, off, none⟩) zs.length c] w fun e w' => e = .returned (.int .i64 (M.pck zs)) ∧ Below w.heap.size w w' := by
  go_enter Try.func62, Try.ntmps62
  go_wp2
  go_loopw [3] (fun i wr => ∃ k : Nat, k ≤ zs.length ∧ i = .int .i64 k ∧ Hid (Okp zs k) ∧ Below w.heap.size w wr) (fun i _ => zs.length - (intOf i).toNat)
  case atStart => exact ⟨0, Nat.zero_le _, rfl, Okp.start _, Below.refl _ _⟩
  case round =>
    obtain ⟨k, hk, rfl, hn, hbr⟩ := hrel
    by_cases hlt : k < zs.length
    · obtain ⟨z, hb, hc, hz⟩ := (h.below hbr).cl hlt
      go_wp2
      go_loopw [4, 5] (fun l j wq => ∃ m j' : Nat, m ≤ k ∧ l = .int .i64 m ∧ j' ≤ k ∧ j = .int .i64 ((j' : Int) - 1) ∧ Hid (M.Lst zs k j' m) ∧ Below w.heap.size w wq) (fun _ j _ => (intOf j + 1).toNat)
      case atStart => exact ⟨k, k, Nat.le_refl _, rfl, Nat.le_refl _, rfl, M.Lst.start _ _, hbr⟩
      case round =>
        obtain ⟨m, j', hm, rfl, hj, rfl, hl, hbq⟩ := hrel
        clear hc hb
        obtain ⟨z2, hb, hc, hz2⟩ := (h.below hbq).cl hlt
        have e2 := hz2.out.symm.trans hz.out
        rw [e2] at hc
        clear hz2 e2
        rcases Nat.eq_zero_or_pos j' with h0 | h0
        · subst h0
          have hl := Lib.hid (hl.out.fin hlt)
          have hml : m ≤ zs.length := by omega
          clear hc hb
          go_wp2
          go_loopw [6, 7] (fun u v wq => ∃ n t : Nat, u = .int .i64 n ∧ v = .int .i64 t ∧ t ≤ m ∧ n ≤ t ∧ Hid (M.cnt (zs.take t) = n) ∧ Below w.heap.size w wq) (fun _ v _ => m - (intOf v).toNat)
          case atStart => exact ⟨0, 0, rfl, rfl, Nat.zero_le _, Nat.le_refl _, by simp [Hid, M.cnt_nil], hbq⟩
          case round =>
            obtain ⟨n, t, rfl, rfl, ht, hnt, hcn, hbs⟩ := hrel
            clear hbq
            by_cases htm : t < m
            · have htl : t < zs.length := by omega
              go_wp2
              go_loopw [8, 9] (fun u v wq => ∃ (f : Int) (s : Nat), u = .int .i64 f ∧ v = .int .i64 s ∧ s ≤ t ∧ 0 ≤ f ∧ f ≤ 1 ∧ Hid (M.fst zs t s = f) ∧ Below w.heap.size w wq) (fun _ v _ => t - (intOf v).toNat)
              case atStart => exact ⟨1, 0, rfl, rfl, Nat.zero_le _, by omega, by omega, M.fst_zero _ _, hbs⟩
              case round =>
                obtain ⟨f, s, rfl, rfl, hs, hf0, hf1, hf, hbt⟩ := hrel
                clear hbs
                by_cases hst : s < t
                · obtain ⟨x, hb, hc, hx⟩ := (h.below hbt).cl (k := s) (by omega)
                  obtain ⟨y, _, hc2, hy⟩ := (h.below hbt).cl htl
                  by_cases hxy : x = y
                  · subst hxy
                    have hf' : Hid (M.fst zs t (s + 1) = 0) := M.fst_hit (by omega) (by rw [hx.out, hy.out])
                    have hsl : s < zs.length := by omega
                    go_wp2
                    go_quiet (fail)
                    go_wp2
                    go_roundw
                    case rel => exact ⟨0, s + 1, rfl, by go_num, by omega, by omega, by omega, hf', below_drewN' hbt _⟩
                    case measure => simp [intOf] <;> omega
                  · have hf' : Hid (M.fst zs t (s + 1) = f) := (M.fst_miss (by omega) (by rw [hx.out, hy.out]; exact hxy)).trans hf.out
                    have hsl : s < zs.length := by omega
                    go_wp2
                    go_quiet (fail)
                    go_wp2
                    go_roundw
                    case rel => exact ⟨f, s + 1, rfl, by go_num, by omega, hf0, hf1, hf', below_drewN' hbt _⟩
                    case measure => simp [intOf] <;> omega
                · have : s = t := by omega
                  subst this
                  have hcn' := M.fst_cnt htl
                  rw [hf.out, hcn.out] at hcn'
                  obtain ⟨n', hn'⟩ : ∃ n' : Nat, (n : Int) + f = n' := ⟨((n : Int) + f).toNat, by omega⟩
                  have hcn2 : Hid (M.cnt (zs.take (s + 1)) = n') := by rw [Hid]; omega
                  clear hf hcn hcn'
                  go_wp2
                  go_roundw
                  case rel => exact ⟨n', s + 1, by rw [← hn'], by go_num, by omega, by omega, hcn2, hbt⟩
                  case measure => simp [intOf] <;> omega
            · have : t = m := by omega
              subst this
              obtain ⟨z2, hb, hc, hz2⟩ := (h.below hbs).cl hlt
              have e2 := hz2.out.symm.trans hz.out
              rw [e2] at hc
              clear hz2 e2
              by_cases he : z = n
              · subst he
                have hok : Hid (Okp zs (k + 1)) := hn.out.step (by rw [← hl.out, hcn.out, hz.out])
                clear hz hl hcn
                go_wp2
                go_roundw
                case rel => exact ⟨k + 1, by omega, by go_num, hok, hbs⟩
                case measure => simp [intOf] <;> omega
              · have hf : Hid (M.pck zs = 1) := M.pck_arg (by omega) (M.vd_not (i := k) (by rw [← hl.out, hcn.out, hz.out]; exact he))
                have hne : (z != (n : Int)) = true := by simpa using he
                clear hz hl hcn
                go_wp2
                go_ret
                exact ⟨ret_int hf.out.symm, hbs⟩
        · obtain ⟨j, rfl⟩ : ∃ j, j' = j + 1 := ⟨j' - 1, by omega⟩
          have e1 : ((j + 1 : Nat) : Int) - 1 = j := by omega
          rw [e1]
          obtain ⟨x, _, hc2, hx⟩ := (h.below hbq).cl (k := j) (by omega)
          have hjl : j < zs.length := by omega
          by_cases hxy : x = z
          · subst hxy
            have hl' : Hid (M.Lst zs k j j) := M.Lst.hit (by omega) (by rw [hx.out, hz.out])
            clear hl
            go_wp2
            go_quiet (fail)
            go_wp2
            go_roundw
            case rel => exact ⟨j, j, by omega, rfl, by omega, (by first | rfl | go_num), hl', below_drewN' hbq _⟩
            case measure => simp [intOf] <;> omega
          · have hl' : Hid (M.Lst zs k j m) := hl.out.miss (by rw [hx.out, hz.out]; exact hxy)
            clear hl
            go_wp2
            go_quiet (fail)
            go_wp2
            go_roundw
            case rel => exact ⟨m, j, hm, rfl, by omega, (by first | rfl | go_num), hl', below_drewN' hbq _⟩
            case measure => simp [intOf] <;> omega
    · have hf : Hid (M.pck zs = 0) := M.pck_ok (by omega) (M.vd_all fun i hi => hn.out i (by omega))
      go_wp2
      go_ret
      exact ⟨ret_int hf.out.symm, hbr⟩

theorem rcheck_any (A : Option Addr) (c : Nat) (zs : List Int) (w : World) (h : Rd w A zs) :
    Calls Try.prog 62 #[.slice A zs.length c] w fun e w' => e = .returned (.int .i64 (M.pck zs)) ∧ Below w.heap.size w w' := by
  by_cases h1 : 256 < zs.length
  · have hf : Hid (M.pck zs = 3) := M.pck_limit h1
    go_enter Try.func62, Try.ntmps62
    go_wp2
    go_ret
    exact ⟨ret_int hf.out.symm, Below.refl _ _⟩
  · rcases Nat.eq_zero_or_pos zs.length with h0 | h0
    · have : zs = [] := List.eq_nil_of_length_eq_zero h0
      subst this
      have hf : Hid (M.pck [] = 0) := rfl
      go_enter Try.func62, Try.ntmps62
      go_wp2
      refine wp_loop_rounds 1 ?_
      rw [rounds_succ]
      go_wp2
      go_ret
      exact ⟨ret_int hf.out.symm, Below.refl _ _⟩
    · obtain ⟨b, off, rfl⟩ := h.opn h0
      exact rcheck_in b off c zs w h (by omega)

theorem own_form {w : World} {base k : Nat} {v : Value} {xs : List Int} (h : w.ownsRow base 3 1 v k (ints xs)) : ∃ A c, v = .slice A k c ∧ Rd w A xs ∧ k ≤ c := by
  rcases h.2 with ⟨rfl, h0⟩ | ⟨g, cap, cur, rfl, _, _, hc, _⟩
  · refine ⟨none, 0, by rw [h0], fun hp => ?_, by omega⟩
    have := h.1; rw [ints_len] at this; omega
  · exact ⟨_, _, rfl, Rd.of_own h, hc⟩

set_option maxRecDepth 100000 in
set_option maxHeartbeats 1000000 in
theorem rof_any (A : Option Addr) (c : Nat) (zs : List Int) (w : World) (h : Rd w A zs) (h1 : zs.length ≤ 300) :
    Calls Try.prog 54 #[.slice A zs.length c] w (Built w (M.ofL zs)) := by
  obtain ⟨i0, hi0, hz0, hz1, hz2⟩ := info_parts int_info
  go_enter Try.func54, Try.ntmps54
  go_wp2
  go_loopw [3, 4, 5] (fun v n i wr => ∃ (k m : Nat) (xs : List Int) (A2 : Option Addr) (c2 : Nat), k ≤ zs.length ∧ i = .int .i64 k ∧ n = .int .i64 m ∧ m ≤ k ∧ v = .slice A2 k c2 ∧ wr.ownsRow w.heap.size 3 1 (.slice A2 k c2) k (ints xs) ∧ Hid (xs = M.ofL (zs.take k)) ∧ Hid (M.cnt (zs.take k) = m) ∧ Below w.heap.size w wr) (fun _ _ i _ => zs.length - (intOf i).toNat)
  case atStart => exact ⟨0, 0, [], none, 0, Nat.zero_le _, rfl, rfl, Nat.le_refl _, rfl, World.ownsRow_nil w _ _ _, rfl, by simp [Hid, M.cnt_nil], Below.refl _ _⟩
  case round =>
    obtain ⟨k, m, xs, A2, c2, hk, rfl, rfl, hmk, rfl, hown, hxs, hm, hbr⟩ := hrel
    by_cases hlt : k < zs.length
    · obtain ⟨b, off, rfl⟩ := h.opn (by omega)
      go_wp2
      go_loopw [6, 7] (fun u v wq => ∃ (d : Int) (s : Nat), u = .int .i64 d ∧ v = .int .i64 s ∧ s ≤ k ∧ Hid (M.bk zs k s = d) ∧ (∃ dr, wq = wr.drewN dr)) (fun _ v _ => k - (intOf v).toNat)
      case atStart => exact ⟨-1, 0, rfl, rfl, Nat.zero_le _, M.bk_zero _ _, 0, rfl⟩
      case round =>
        obtain ⟨d, s, rfl, rfl, hs, hd, dr, rfl⟩ := hrel
        by_cases hsk : s < k
        · obtain ⟨z, hb, hc, hz⟩ := (h.below hbr).cl hlt
          obtain ⟨x, _, hc2, hx⟩ := (h.below hbr).cl (k := s) (by omega)
          have hsl : s < zs.length := by omega
          by_cases hxz : x = z
          · subst hxz
            have hd' := M.bk_hit hsk hlt (hx.out.trans hz.out.symm)
            rw [← hxs.out] at hd'
            have hxl : xs.length = k := by rw [hxs.out, M.ofL_len, List.length_take]; omega
            have hrx : Rd wr A2 xs := Rd.of_own hown
            obtain ⟨b2, off2, rfl⟩ := hrx.opn (by omega)
            obtain ⟨y, _, hc3, hy⟩ := hrx.cl (k := s) (by omega)
            rw [hy.out] at hd'
            have hd' := Lib.hid hd'
            clear hd
            go_wp2
            go_quiet (fail)
            go_wp2
            go_roundw
            case rel => exact ⟨y, s + 1, rfl, by go_num, by omega, hd', by first | exact ⟨_, rfl⟩ | exact ⟨_, World.drewN_drewN _ _ _⟩⟩
            case measure => simp [intOf] <;> omega
          · have hd' : Hid (M.bk zs k (s + 1) = d) := (M.bk_miss hsk hlt (by rw [hx.out, hz.out]; exact hxz)).trans hd.out
            clear hd
            go_wp2
            go_quiet (fail)
            go_wp2
            go_roundw
            case rel => exact ⟨d, s + 1, rfl, by go_num, by omega, hd', by first | exact ⟨_, rfl⟩ | exact ⟨_, World.drewN_drewN _ _ _⟩⟩
            case measure => simp [intOf] <;> omega
        · have : s = k := by omega
          subst this
          have hdr := M.bk_range zs s s
          rw [hd.out] at hdr
          by_cases hneg : d < 0
          · obtain ⟨e1, e2⟩ := M.bk_new hlt (by rw [hd.out]; exact hneg)
            rw [← hxs.out, hm.out] at e1
            rw [hm.out] at e2
            have E1 := Lib.hid e1
            have E2 := Lib.hid e2
            have hbr' := below_drewN' hbr dr
            have hsz : w.heap.size ≤ (wr.drewN dr).heap.size := hbr'.size
            have hown' : (wr.drewN dr).ownsRow w.heap.size 3 1 (.slice A2 s c2) s (ints xs) := hown
            clear e1 e2 hd hdr hxs hm hown hbr
            go_wp2_with (at_builtin; refine wpList_append_own _ rfl _ _ 29 rfl w.heap.size 3 i0 (.int .i64 0) 1 8 Try.underlying29 hi0 hz0 hz1 hz2 rfl (by decide) _ _ _ rfl (hown'.alloc _) ⟨(wr.drewN dr).heap.size, 0, none⟩ 1 1 [.int .i64 m] rfl rfl ?c1 ?c2 ?c3 ?c4 ?c5 ?_)
            case c1 => first | exact (cell_one_new _ _ _) | (intro j u hj; have := cell_one_new (wr.drewN dr) _ 3 j u hj; simpa [Addr.add_lit] using this)
            case c2 => first | rfl | (intro u hu; simp at hu; subst hu; rfl)
            case c3 => unfold maxLen; omega
            case c4 => omega
            case c5 => simp at hsz ⊢; omega
            intro v1 w1 hown1 hg1 _
            obtain ⟨hown2, hbr2⟩ := own_step hbr' hsz hown' hown1 hg1
            obtain ⟨A3, c3, rfl, _, _⟩ := own_form hown2
            clear hown1 hg1 hown'
            go_wp2
            go_roundw
            case rel => exact ⟨s + 1, m + 1, _, A3, c3, by omega, by go_num, by go_num, by omega, rfl, hown2, E1.out.symm, E2, hbr2⟩
            case measure => simp [intOf] <;> omega
          · obtain ⟨e1, e2⟩ := M.bk_old hlt (by rw [hd.out]; exact hneg)
            rw [← hxs.out, hd.out] at e1
            rw [hm.out] at e2
            have E1 := Lib.hid e1
            have E2 := Lib.hid e2
            have hbr' := below_drewN' hbr dr
            have hsz : w.heap.size ≤ (wr.drewN dr).heap.size := hbr'.size
            have hown' : (wr.drewN dr).ownsRow w.heap.size 3 1 (.slice A2 s c2) s (ints xs) := hown
            clear e1 e2 hd hdr hxs hm hown hbr
            go_wp2_with (at_builtin; refine wpList_append_own _ rfl _ _ 29 rfl w.heap.size 3 i0 (.int .i64 0) 1 8 Try.underlying29 hi0 hz0 hz1 hz2 rfl (by decide) _ _ _ rfl (hown'.alloc _) ⟨(wr.drewN dr).heap.size, 0, none⟩ 1 1 [.int .i64 d] rfl rfl ?c1 ?c2 ?c3 ?c4 ?c5 ?_)
            case c1 => first | exact (cell_one_new _ _ _) | (intro j u hj; have := cell_one_new (wr.drewN dr) _ 3 j u hj; simpa [Addr.add_lit] using this)
            case c2 => first | rfl | (intro u hu; simp at hu; subst hu; rfl)
            case c3 => unfold maxLen; omega
            case c4 => omega
            case c5 => simp at hsz ⊢; omega
            intro v1 w1 hown1 hg1 _
            obtain ⟨hown2, hbr2⟩ := own_step hbr' hsz hown' hown1 hg1
            obtain ⟨A3, c3, rfl, _, _⟩ := own_form hown2
            clear hown1 hg1 hown'
            go_wp2
            go_roundw
            case rel => exact ⟨s + 1, m, _, A3, c3, by omega, by go_num, rfl, by omega, rfl, hown2, E1.out.symm, E2, hbr2⟩
            case measure => simp [intOf] <;> omega
    · have hk2 : zs.take k = zs := List.take_of_length_le (by omega)
      rw [hk2] at hxs
      go_wp2
      go_ret
      rw [← hxs.out]
      exact Built.of_own hown hbr
end Go.Proofs.Ytonnplhiaidjnaa

namespace Go.Proofs.Ytonnplhiaidjnaa
open Go.RowKit

set_option maxHeartbeats 1000000 in
theorem rfiner_any (A B : Option Addr) (c d : Nat) (p q : List Int) (w : World) (hp : Rd w A p) (hq : Rd w B q) (he : p.length = q.length) (h1 : p.length ≤ 300) :
    Calls Try.prog 21 #[.slice A p.length c, .slice B q.length d] w fun e w' => e = .returned (.int .i64 (M.finI p q)) ∧ Below w.heap.size w w' := by
  have HE := Lib.hid he
  clear he
  go_enter Try.func21, Try.ntmps21
  go_wp2
  go_loopw [5] (fun i wr => ∃ k : Nat, k ≤ p.length ∧ i = .int .i64 k ∧ Hid (M.Fi p q k) ∧ Below w.heap.size w wr) (fun i _ => p.length - (intOf i).toNat)
  case atStart => exact ⟨0, Nat.zero_le _, rfl, M.Fi.start _ _, Below.refl _ _⟩
  case round =>
    obtain ⟨k, hk, rfl, hn, hbr⟩ := hrel
    by_cases hlt : k < p.length
    · obtain ⟨b, off, rfl⟩ := hp.opn (by omega)
      obtain ⟨b2, off2, rfl⟩ := hq.opn (by have := HE.out; omega)
      go_wp2
      go_loopw [6] (fun i wq => ∃ s : Nat, s ≤ k ∧ i = .int .i64 s ∧ Hid (M.Fk p q k s) ∧ Below w.heap.size w wq) (fun i _ => k - (intOf i).toNat)
      case atStart => exact ⟨0, Nat.zero_le _, rfl, M.Fk.start _ _ _, hbr⟩
      case round =>
        obtain ⟨s, hs, rfl, hf, hbq⟩ := hrel
        clear hbr
        by_cases hsk : s < k
        · obtain ⟨x, hb, hc, hx⟩ := (hp.below hbq).cl hlt
          obtain ⟨y, _, hc2, hy⟩ := (hp.below hbq).cl (k := s) (by omega)
          obtain ⟨u, hb2, hc3, hu⟩ := (hq.below hbq).cl (k := k) (by have := HE.out; omega)
          obtain ⟨v, _, hc4, hv⟩ := (hq.below hbq).cl (k := s) (by have := HE.out; omega)
          have hsl : s < p.length := by omega
          have hkq : (k : Int) < q.length := by have := HE.out; omega
          have hsq : (s : Int) < q.length := by have := HE.out; omega
          by_cases hxy : x = y
          · subst hxy
            by_cases huv : u = v
            · subst huv
              have hf' : Hid (M.Fk p q k (s + 1)) := hf.out.step (by intro hb; exact hb.2 (by rw [hu.out, hv.out]))
              clear hf
              go_wp2
              go_quiet (fail)
              go_wp2
              go_roundw
              case rel => exact ⟨s + 1, by omega, by go_num, hf', below_drewN' hbq _⟩
              case measure => simp [intOf] <;> omega
            · have hfin : Hid (M.finI p q = 0) := M.finI_no (M.not_fin hlt hsk ⟨by rw [hx.out, hy.out], by rw [hu.out, hv.out]; exact huv⟩)
              have hne : (u != v) = true := by simpa using huv
              clear hf
              go_wp2
              go_quiet (fail)
              go_wp2
              go_ret
              exact ⟨ret_int hfin.out.symm, below_drewN' hbq _⟩
          · have hf' : Hid (M.Fk p q k (s + 1)) := hf.out.step (by intro hb; exact hxy (by rw [← hx.out, ← hy.out]; exact hb.1))
            have hne : (x == y) = false := by simpa using hxy
            clear hf
            go_wp2
            go_quiet (fail)
            go_wp2
            go_roundw
            case rel => exact ⟨s + 1, by omega, by go_num, hf', below_drewN' hbq _⟩
            case measure => simp [intOf] <;> omega
        · have : s = k := by omega
          subst this
          have hn' : Hid (M.Fi p q (s + 1)) := hn.out.step hf.out
          clear hf hn
          go_wp2
          go_roundw
          case rel => exact ⟨s + 1, by omega, by go_num, hn', hbq⟩
          case measure => simp [intOf] <;> omega
    · have : k = p.length := by omega
      subst this
      have hfin : Hid (M.finI p q = 1) := M.finI_yes hn.out.fin
      go_wp2
      go_ret
      exact ⟨ret_int hfin.out.symm, hbr⟩

theorem rof_at (A : Option Addr) (c m : Nat) (zs : List Int) (w : World) (h : Rd w A zs) (e : zs.length = m) (h1 : m ≤ 300) :
    Calls Try.prog 54 #[.slice A m c] w (Built w (M.ofL zs)) := by
  subst e
  exact rof_any A c zs w h h1

end Go.Proofs.Ytonnplhiaidjnaa
