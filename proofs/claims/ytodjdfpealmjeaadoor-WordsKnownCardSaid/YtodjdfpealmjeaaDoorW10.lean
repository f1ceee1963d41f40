/-
  Contracts: words.readNumber, words.readList, words.Parse.
-/
import Derived.Test.YtodjdfpealmjeaaDoorW6
import Derived.Test.YtodjdfpealmjeaaDoorW9
import Derived.Test.YtodjdfpealmjeaaDoorParseM
namespace Go.Proofs.YtodjdfpealmjeaaDoor
open Go.RowKit

theorem take_snocB (s : ByteArray) (k : Nat) (h : k < s.size) : s.data.toList.take (k + 1) = s.data.toList.take k ++ [s[k]] := by
  rw [List.take_succ_eq_append_getElem (by simpa using h)]; rfl
theorem ret_ib {a b : Int} {x y : Bool} (h : a = b) (g : x = y) : Ending.returned (.tuple #[.int .i64 a, .bool x]) = .returned (.tuple #[.int .i64 b, .bool y]) := by rw [h, g]

theorem at_byte (s : ByteArray) (k : Nat) (h : k < s.size) : s.data.toList[k]? = some s[k] := by
  rw [List.getElem?_eq_getElem (by simpa using h)]; rfl
theorem len_byte (s : ByteArray) : s.data.toList.length = s.size := (Lib.size_eq s).symm

set_option maxRecDepth 100000 in
set_option maxHeartbeats 800000 in
theorem num_loop (s : ByteArray) (w : World) (h1 : 1 ≤ s.size) (h2 : s.size ≤ 9) (h3 : ¬ (1 < s.data.toList.length ∧ s.data.toList[0]? = some 48)) :
    Calls Tryd.prog 49 #[.string s] w fun e w' => e = .returned (.tuple #[.int .i64 (M.numV s.data.toList), .bool (M.numOk s.data.toList)]) ∧ Below w.heap.size w w' := by
  have H3 := Lib.hid h3
  clear h3
  have hc0 : 1 < s.size → (((s[0]'(by omega)).toNat : Int) == 48) = false := fun hl => by
    rw [beq_eq_false_iff_ne]
    intro e
    refine H3.out ⟨by rw [len_byte]; exact hl, ?_⟩
    rw [at_byte s 0 (by omega)]
    congr 1
    apply UInt8.toNat_inj.1
    have : (s[0]'(by omega)).toNat = 48 := by omega
    simpa using this
  by_cases hl : 1 < s.size
  all_goals
    first
      | (have hc := hc0 hl; clear hc0)
      | clear hc0
    go_enter Tryd.func49, Tryd.ntmps49
    go_wp2
    go_loop [4, 26] (fun n i => ∃ k : Nat, k ≤ s.size ∧ i = .int .i64 k ∧ n = .int .i64 (M.val (s.data.toList.take k)) ∧ Hid ((s.data.toList.take k).any M.nod = false)) (fun _ i => s.size - (intOf i).toNat)
    case atStart => exact ⟨0, Nat.zero_le _, rfl, by simp [M.val], by simp [Hid]⟩
    case round =>
      obtain ⟨k, hk, rfl, rfl, hn⟩ := hrel
      by_cases hlt : k < s.size
      · by_cases hbad : M.nod s[k] = true
        · obtain ⟨g1, g2⟩ := M.num_hit (at_byte s k hlt) hbad
          have G1 := Lib.hid g1
          have G2 := Lib.hid g2
          have hb := M.nod_yes hbad
          clear g1 g2 hbad
          rcases hb with hb | hb
          · go_wp2
            go_ret2
            exact ⟨ret_ib G2.out.symm G1.out.symm, Below.refl _ _⟩
          · have hb2 : ¬ (s[k].toNat : Int) < 48 := by omega
            go_wp2
            go_ret2
            exact ⟨ret_ib G2.out.symm G1.out.symm, Below.refl _ _⟩
        · obtain ⟨hb1, hb2⟩ := M.nod_no hbad
          have hsn : (s.data.toList.take (k + 1)).any M.nod = false := by
            rw [take_snocB s k hlt, List.any_append, hn.out]
            simpa using hbad
          have HN := Lib.hid hsn
          have hv := M.val_small (l := s.data.toList.take k) (by rw [List.length_take]; omega) hn.out
          obtain ⟨hv1, hv2⟩ := hv
          have HV : Hid (M.val (s.data.toList.take (k + 1)) = 10 * M.val (s.data.toList.take k) + ((s[k].toNat : Int) - 48)) := by
            show _ = _
            rw [take_snocB s k hlt, M.val_snoc]
          clear hsn hbad
          go_wp2
          go_round
          case rel => exact ⟨k + 1, by omega, by go_num, by rw [HV.out], HN⟩
          case measure => simp [intOf]; omega
      · have ek : s.data.toList.take k = s.data.toList := List.take_of_length_le (by rw [len_byte]; omega)
        rw [ek] at hn ⊢
        obtain ⟨g1, g2⟩ := M.num_ok (by rw [len_byte]; omega) (by rw [len_byte]; omega) H3.out hn.out
        have G1 := Lib.hid g1
        have G2 := Lib.hid g2
        clear g1 g2 ek
        go_wp2
        go_ret2
        exact ⟨ret_ib G2.out.symm G1.out.symm, Below.refl _ _⟩

theorem num_any (s : ByteArray) (w : World) (hm : s.size ≤ 9223372036854775807) :
    Calls Tryd.prog 49 #[.string s] w fun e w' => e = .returned (.tuple #[.int .i64 (M.numV s.data.toList), .bool (M.numOk s.data.toList)]) ∧ Below w.heap.size w w' := by
  by_cases h1 : s.size < 1
  · obtain ⟨g1, g2⟩ := M.num_bad (l := s.data.toList) (.inl (by rw [len_byte]; exact h1))
    have G1 := Lib.hid g1
    have G2 := Lib.hid g2
    clear g1 g2
    go_enter Tryd.func49, Tryd.ntmps49
    go_wp2
    go_ret2
    exact ⟨ret_ib G2.out.symm G1.out.symm, Below.refl _ _⟩
  · by_cases h2 : 9 < s.size
    · obtain ⟨g1, g2⟩ := M.num_bad (l := s.data.toList) (.inr (.inl (by rw [len_byte]; exact h2)))
      have G1 := Lib.hid g1
      have G2 := Lib.hid g2
      clear g1 g2
      go_enter Tryd.func49, Tryd.ntmps49
      go_wp2
      go_ret2
      exact ⟨ret_ib G2.out.symm G1.out.symm, Below.refl _ _⟩
    · by_cases h3 : 1 < s.data.toList.length ∧ s.data.toList[0]? = some 48
      · obtain ⟨g1, g2⟩ := M.num_bad (l := s.data.toList) (.inr (.inr h3))
        have G1 := Lib.hid g1
        have G2 := Lib.hid g2
        have hl : 1 < s.size := by rw [← len_byte]; exact h3.1
        have h0 := h3.2
        rw [at_byte s 0 (by omega)] at h0
        injection h0 with h0
        have hc : (((s[0]'(by omega)).toNat : Int) == 48) = true := by rw [h0]; rfl
        clear g1 g2 h3 h0
        go_enter Tryd.func49, Tryd.ntmps49
        go_wp2
        go_ret2
        exact ⟨ret_ib G2.out.symm G1.out.symm, Below.refl _ _⟩
      · exact num_loop s w (by omega) (by omega) h3

theorem ssplit_at (s : ByteArray) (w : World) (he : Env w) (hs : s.size ≤ 65536) :
    Calls Tryd.prog 48 #[.string s, .string ⟨#[32]⟩] w fun e w' => ∃ ss g n, e = .returned (.slice (some ⟨g, 0, none⟩) n n) ∧ Hid (BlkS w' g ss) ∧ Hid (ss.map (·.data.toList) = M.pieces s.data.toList) ∧ Hid (ss.length = n) ∧ n ≤ 65537 ∧ w.heap.size ≤ g ∧ Below w.heap.size w w' := by
  obtain ⟨m, hm⟩ := he.max
  refine (Tryd.strings_Split s ⟨#[32]⟩ m w (by omega) hm (by decide)).mono ?_
  rintro e w' ⟨rfl, rfl⟩
  have hp := M.split_pieces s
  have hl : (Lib.splitB ⟨#[32]⟩ 0 (Lib.countB s ⟨#[32]⟩) s).length = Lib.countB s ⟨#[32]⟩ + 1 := Lib.splitB_all ⟨#[32]⟩ (by decide) 0 _ s rfl
  have hc := M.pieces_count s.data.toList
  rw [← hp, List.length_map, hl, len_byte] at hc
  exact ⟨_, _, _, rfl, heap_alloc_new w _, hp, hl, by omega, Nat.le_refl _, (Below.refl _ _).alloc (Nat.le_refl _) _⟩
theorem piece_at {ss : List ByteArray} {ps : List (List UInt8)} (h : ss.map (·.data.toList) = ps) {k : Nat} {x : ByteArray} (hx : ss[k]? = some x) : ps[k]? = some x.data.toList := by
  rw [← h]
  simp [hx]

/-- What readList hands back. -/
def Lst (w : World) (l : List UInt8) (e : Ending) (w' : World) : Prop := ∃ A, e = .returned (.tuple #[.slice A (M.listV l).length (M.listV l).length, .bool (M.listOk l)]) ∧ Rd w' A (M.listV l) ∧ Below w.heap.size w w'
theorem Lst.mk {w w' : World} {l : List UInt8} {zs : List Int} {b : Bool} {A : Option Addr} {m : Nat} (h1 : M.listV l = zs) (h2 : M.listOk l = b) (hm : zs.length = m) (hr : Rd w' A zs) (hb : Below w.heap.size w w') : Lst w l (.returned (.tuple #[.slice A m m, .bool b])) w' := by
  subst hm
  refine ⟨A, ?_, ?_, hb⟩
  · rw [h1, h2]
  · rw [h1]; exact hr

set_option maxRecDepth 100000 in
set_option maxHeartbeats 800000 in
theorem list_any (s : ByteArray) (w : World) (he : Env w) (hs : s.size ≤ 65536) (hd : s.data.toList ≠ [45]) :
    Calls Tryd.prog 41 #[.string s] w (Lst w s.data.toList) := by
  have hne : (s.toList == [45]) = false := by
    rw [ByteArray.toList_eq, beq_eq_false_iff_ne]
    exact hd
  have HD := Lib.hid hd
  clear hd
  go_enter Tryd.func41, Tryd.ntmps41
  go_wp2_with fail
  refine (ssplit_at s _ he hs).mono ?_
  rintro e w1 ⟨ss, g, n, rfl, hB, hp, hn, hn2, hgB, hb1⟩
  have hg1 := hB.out.lt
  go_wp2_with (refine wpList_make_ints _ rfl _ _ rfl _ n rfl rfl rfl (by omega) ?_)
  intro w2 hB2 hb2
  obtain ⟨g2, hg2⟩ : ∃ g2, w1.heap.size = g2 := ⟨_, rfl⟩
  have hgB2 : w.heap.size ≤ g2 := by omega
  have hbS : Hid (BlkS w2 g ss) := hB.out.below hb2 hg1
  have hbw := below_next hb1 hb2
  have hgg : g < g2 := by omega
  rw [hg2] at hB2 hb2 ⊢
  clear hB hg2 hb2 hb1 hg1
  go_wp2
  have hpl : Hid ((M.pieces s.data.toList).length = n) := by show _ = _; rw [← hp.out, List.length_map]; exact hn.out
  go_loopw [20] (fun i wr => ∃ (k : Nat) (cur : List Int), k ≤ n ∧ i = .int .i64 k ∧ Hid (BlkS wr g ss) ∧ Hid (Blk wr g2 cur) ∧ Hid (M.Rl (M.pieces s.data.toList) k cur) ∧ Hid (M.numsOk ((M.pieces s.data.toList).take k) = true) ∧ Below w.heap.size w wr) (fun i _ => n - (intOf i).toNat)
  case atStart => exact ⟨0, _, Nat.zero_le _, rfl, hbS, hB2, (by rw [← hpl.out]; exact M.Rl.start _), by simp [Hid, M.numsOk], hbw⟩
  case round =>
    obtain ⟨k, cur, hk, rfl, hS, hB, hR, hN, hbr⟩ := hrel
    clear hB2 hbS hbw
    by_cases hlt : k < n
    · have hlen := Lib.hid (hR.out.len (by rw [hpl.out]; exact hk))
      obtain ⟨x, hcx, hfx, hx⟩ := hS.out.at_ (k := k) (by rw [hn.out]; exact hlt)
      have HP := Lib.hid (piece_at hp.out hx.out)
      have hxs := M.pieces_le _ _ (List.mem_of_getElem? HP.out)
      rw [len_byte, len_byte] at hxs
      have hg2l := hB.out.lt
      have hgl := hS.out.lt
      by_cases hok : M.numOk x.data.toList = true
      · have HOK := Lib.hid hok
        have HR := Lib.hid (hR.out.step HP.out)
        have HN2 := Lib.hid (M.nums_snoc HP.out hN.out hok)
        clear hok hfx
        go_wp2_with fail
        refine (num_any x _ (by omega)).mono ?_
        rintro e w3 ⟨rfl, hb3⟩
        rw [HOK.out]
        have hB3 := Lib.hid (hB.out.below hb3 hg2l)
        have hS3 := Lib.hid (hS.out.below hb3 hgl)
        obtain ⟨y, hcy, hfy, hy⟩ := hB3.out.at_ (k := k) (by rw [hlen.out, hpl.out]; exact hlt)
        have hbr3 := below_next hbr hb3
        clear hcx hB hS hbr hb3 hg2l hgl hy
        go_wp2
        go_roundw
        case rel => exact ⟨k + 1, _, by omega, by go_num, hS3.out.far (by omega) _ _, hB3.out.set_ k _, HR, HN2, hbr3.setCell hgB2 _⟩
        case measure => simp [intOf]; omega
      · have hok2 : M.numOk x.data.toList = false := by simpa using hok
        obtain ⟨e1, e2⟩ := M.list_bad HD.out HP.out hok2
        have HOK := Lib.hid hok2
        have E1 := Lib.hid e1
        have E2 := Lib.hid e2
        clear hok hok2 e1 e2 hfx
        go_wp2_with fail
        refine (num_any x _ (by omega)).mono ?_
        rintro e w3 ⟨rfl, hb3⟩
        rw [HOK.out]
        go_wp2
        go_ret2
        exact Lst.mk E2.out E1.out rfl Rd.nil_ (below_next hbr hb3)
    · obtain rfl : k = n := by omega
      have hall : M.numsOk (M.pieces s.data.toList) = true := by
        have := hN.out
        rwa [List.take_of_length_le (by rw [hpl.out]; exact Nat.le_refl _)] at this
      obtain ⟨e1, e2⟩ := M.list_good HD.out hall
      have HX : Hid (cur = (M.pieces s.data.toList).map M.numV) := by
        have := hR.out
        rw [← hpl.out] at this
        exact this.done
      have E1 := Lib.hid e1
      have E2 := Lib.hid e2
      clear e1 e2 hall
      go_wp2
      go_ret2
      refine Lst.mk E2.out E1.out ?_ (by rw [← HX.out]; exact hB.out.rd) hbr
      rw [List.length_map]
      exact hpl.out

theorem list_dash (s : ByteArray) (w : World) (hd : s.data.toList = [45]) :
    Calls Tryd.prog 41 #[.string s] w (Lst w s.data.toList) := by
  have hs : s = ⟨#[45]⟩ := by
    obtain ⟨⟨l⟩⟩ := s
    simp at hd
    subst hd
    rfl
  subst hs
  go_enter Tryd.func41, Tryd.ntmps41
  go_wp2
  go_ret2
  exact Lst.mk (zs := []) M.list_dash.2 M.list_dash.1 rfl Rd.nil_ ((Below.refl _ _).alloc (Nat.le_refl _) _)
end Go.Proofs.YtodjdfpealmjeaaDoor
