/-
  Contracts: classes.read.
-/
import Derived.Test.YtnhibkkkpmaddaaDoorC16
namespace Go.Proofs.YtnhibkkkpmaddaaDoor
open Go.RowKit

namespace M
open Go.Lib
/-- What is still to be read: the rest of a row, and the rows behind it. -/
def contT (b : Int) (ts qs : List (List UInt8)) (cur : List Int) : Option (List Int) := match rdTs b ts cur with
  | none => none
  | some c => rdRows (b + 1) qs c
theorem rdRows_cons (b : Int) (q : List UInt8) (qs : List (List UInt8)) (cur : List Int) : rdRows b (q :: qs) cur = contT b (pieces q) qs cur := rfl
theorem contT_nil (b : Int) (qs : List (List UInt8)) (cur : List Int) : contT b [] qs cur = rdRows (b + 1) qs cur := rfl
theorem contT_none {b : Int} {t : List UInt8} {ts qs : List (List UInt8)} {cur : List Int} (h : nm t cur.length = none) : contT b (t :: ts) qs cur = none := by simp [contT, rdTs_none h]
theorem contT_some {b : Int} {t : List UInt8} {ts qs : List (List UInt8)} {cur : List Int} {k : Nat} (h : nm t cur.length = some k) : contT b (t :: ts) qs cur = contT b ts qs (cur.set k b) := by simp [contT, rdTs_some h]
theorem split_piece : ∀ (n : Nat) (s : List UInt8), s.length ≤ n → ∀ q ∈ Lib.split s bar, q.length ≤ s.length := by
  intro n
  induction n with
  | zero =>
    intro s hs q hq
    have : s = [] := List.eq_nil_of_length_eq_zero (by omega)
    subst this
    rw [split_miss (by decide)] at hq
    rw [List.mem_singleton.1 hq]
    exact Nat.le_refl _
  | succ n ih =>
    intro s hs q hq
    rcases index_spec s bar with ⟨h, _⟩ | ⟨i, h, hi, ho, _⟩
    · rw [split_miss h] at hq
      rw [List.mem_singleton.1 hq]
      exact Nat.le_refl _
    · rw [split_hit h] at hq
      have hr : i + 3 ≤ s.length := (occAt_room ho).resolve_right (by simp [bar])
      rcases List.mem_cons.1 hq with rfl | hq
      · rw [List.length_take]; omega
      · have := ih (s.drop (i + 3)) (by rw [List.length_drop]; omega) q hq
        rw [List.length_drop] at this
        omega
theorem drop_at {α : Type} {l : List α} {k : Nat} {x : α} (h : l[k]? = some x) : l.drop k = x :: l.drop (k + 1) := by
  have hk : k < l.length := by
    rcases Nat.lt_or_ge k l.length with h1 | h1
    · exact h1
    · rw [List.getElem?_eq_none h1] at h; cases h
  rw [List.drop_eq_getElem_cons hk]
  rw [List.getElem?_eq_getElem hk] at h
  injection h with h
  rw [h]
end M

theorem len_byte' (s : ByteArray) : s.data.toList.length = s.size := Array.length_toList
theorem ssplit_at (s : ByteArray) (w : World) (he : Env w) (hs : s.size ≤ 65536) :
    Calls Tryd.prog 47 #[.string s, .string ⟨#[32]⟩] w fun e w' => ∃ ss g n, e = .returned (.slice (some ⟨g, 0, none⟩) n n) ∧ Hid (BlkS w' g ss) ∧ Hid (ss.map (·.data.toList) = M.pieces s.data.toList) ∧ Hid (ss.length = n) ∧ n ≤ 65537 ∧ w.heap.size ≤ g ∧ Below w.heap.size w w' := by
  obtain ⟨m, hm⟩ := he.max
  refine (Tryd.strings_Split s ⟨#[32]⟩ m w (by omega) hm (by decide)).mono ?_
  rintro e w' ⟨rfl, rfl⟩
  have hp := M.split_pieces s
  have hl : (Lib.splitB ⟨#[32]⟩ 0 (Lib.countB s ⟨#[32]⟩) s).length = Lib.countB s ⟨#[32]⟩ + 1 := Lib.splitB_all ⟨#[32]⟩ (by decide) 0 _ s rfl
  have hc := M.pieces_count s.data.toList
  rw [← hp, List.length_map, hl, len_byte'] at hc
  exact ⟨_, _, _, rfl, heap_alloc_new w _, hp, hl, by omega, Nat.le_refl _, (Below.refl _ _).alloc (Nat.le_refl _) _⟩
theorem count_le_len (l : List UInt8) (c : UInt8) : l.count c ≤ l.length := List.count_le_length
theorem bsplit_at (s : ByteArray) (w : World) (he : Env w) (hs : s.size ≤ 65536) :
    Calls Tryd.prog 47 #[.string s, .string ⟨#[32, 124, 32]⟩] w fun e w' => ∃ ss g n, e = .returned (.slice (some ⟨g, 0, none⟩) n n) ∧ Hid (BlkS w' g ss) ∧ Hid (ss.map (·.data.toList) = Lib.split s.data.toList M.bar) ∧ Hid (ss.length = n) ∧ n ≤ 65537 ∧ 1 ≤ n ∧ w.heap.size ≤ g ∧ Below w.heap.size w w' := by
  obtain ⟨m, hm⟩ := he.max
  refine (Tryd.strings_Split s ⟨#[32, 124, 32]⟩ m w (by omega) hm (by decide)).mono ?_
  rintro e w' ⟨rfl, rfl⟩
  have hp : (Lib.splitB ⟨#[32, 124, 32]⟩ 0 (Lib.countB s ⟨#[32, 124, 32]⟩) s).map (·.data.toList) = Lib.split s.data.toList M.bar := by
    rw [Lib.splitB_data]
    rfl
  have hl : (Lib.splitB ⟨#[32, 124, 32]⟩ 0 (Lib.countB s ⟨#[32, 124, 32]⟩) s).length = Lib.countB s ⟨#[32, 124, 32]⟩ + 1 := Lib.splitB_all ⟨#[32, 124, 32]⟩ (by decide) 0 _ s rfl
  have hc := M.split_le s.data.toList
  have hc2 := count_le_len s.data.toList 32
  rw [← hp, List.length_map, hl] at hc
  rw [len_byte'] at hc2
  exact ⟨_, _, _, rfl, heap_alloc_new w _, hp, hl, by omega, by omega, Nat.le_refl _, (Below.refl _ _).alloc (Nat.le_refl _) _⟩
theorem piece_at {ss : List ByteArray} {ps : List (List UInt8)} (h : ss.map (·.data.toList) = ps) {k : Nat} {x : ByteArray} (hx : ss[k]? = some x) : ps[k]? = some x.data.toList := by
  rw [← h]
  simp [hx]
/-- strconv.Atoi: a number, or an error. -/
theorem atoi_ok (s : ByteArray) (v : Int) (w : World) (hs : s.size ≤ 65536) (h : Lib.atoiAll s.data.toList = .ok v) :
    Calls Tryd.prog 49 #[.string s] w fun e w' => e = .returned (.tuple #[.int .i64 v, .nilIface]) ∧ Below w.heap.size w w' :=
  (Tryd.strconv_Atoi_ok s (by omega) v h w).mono fun e w' ⟨he, hw⟩ => ⟨he, by
    rcases hw with rfl | ⟨t, rfl⟩
    · exact Below.refl _ _
    · exact Lib.bytesWorld_below _ _ _⟩
theorem atoi_bad (s : ByteArray) (w : World) (he : Env w) (hs : s.size ≤ 65536) (h : ∀ v, Lib.atoiAll s.data.toList ≠ .ok v) :
    Calls Tryd.prog 49 #[.string s] w fun e w' => (∃ x t N, e = .returned (.tuple #[.int .i64 x, .iface t (.pointer (some ⟨N, 0, none⟩))])) ∧ Below w.heap.size w w' := by
  rcases hr : Lib.atoiAll s.data.toList with v | _ | _
  · exact absurd hr (h v)
  · obtain ⟨ev, h1, h2⟩ := he.syn
    exact (Tryd.strconv_Atoi_syntax s (by omega) hr ev w h1 h2).mono fun e w' ⟨N, he, _, _, hb⟩ => ⟨⟨_, _, N, he⟩, hb⟩
  · obtain ⟨ev, h1, h2⟩ := he.rng
    exact (Tryd.strconv_Atoi_range s (by omega) hr ev w h1 h2).mono fun e w' ⟨N, he, _, _, hb⟩ => ⟨⟨_, _, N, he⟩, hb⟩
theorem nm_bad {t : List UInt8} {n : Nat} (h : ∀ v, Lib.atoiAll t ≠ .ok v) : M.nm t n = none := by
  rcases hr : Lib.atoiAll t with v | _ | _
  · exact absurd hr (h v)
  · exact M.nm_syn hr
  · exact M.nm_rng hr
/-- What read hands back. -/
def Rres (w : World) (o : Option (List Int)) (e : Ending) (w' : World) : Prop := match o with
  | some p => (∃ A, e = .returned (.tuple #[.slice A p.length p.length, .bool true]) ∧ Rd w' A p) ∧ p.length ≤ 65537 ∧ Below w.heap.size w w'
  | none => e = .returned (.tuple #[.slice none 0 0, .bool false]) ∧ Below w.heap.size w w'
theorem Rres.none_ {w w' : World} {o : Option (List Int)} (h : o = none) (hb : Below w.heap.size w w') : Rres w o (.returned (.tuple #[.slice none 0 0, .bool false])) w' := by
  subst h
  exact ⟨rfl, hb⟩
theorem Rres.some_ {w w' : World} {o : Option (List Int)} {p : List Int} {A : Option Addr} {m : Nat} (h : o = some p) (hm : p.length = m) (hr : Rd w' A p) (hl : m ≤ 65537) (hb : Below w.heap.size w w') : Rres w o (.returned (.tuple #[.slice A m m, .bool true])) w' := by
  subst h hm
  exact ⟨⟨A, rfl, hr⟩, hl, hb⟩

set_option maxRecDepth 100000 in
set_option maxHeartbeats 2000000 in
theorem read_any (s : ByteArray) (w : World) (he : Env w) (hs : s.size ≤ 65536) (hd : s.data.toList ≠ [45]) :
    Calls Tryd.prog 40 #[.string s] w (Rres w (M.readL s.data.toList)) := by
  have hne : (s.toList == [45]) = false := by
    rw [ByteArray.toList_eq, beq_eq_false_iff_ne]
    exact hd
  obtain ⟨R, hR⟩ : ∃ R, Hid (M.readL s.data.toList = R) := ⟨_, rfl⟩
  have hR2 : Hid (M.rdRows 0 (Lib.split s.data.toList M.bar) (List.replicate (M.room s.data.toList) 0) = R) := by
    have := hR.out
    unfold M.readL at this
    rwa [if_neg hd] at this
  rw [hR.out]
  have hc1 := M.split_le s.data.toList
  have hc2 := count_le_len s.data.toList 32
  rw [len_byte'] at hc2
  obtain ⟨ct, hct⟩ : ∃ ct, Hid (s.data.toList.count 32 = ct) := ⟨_, rfl⟩
  obtain ⟨rm, hrm⟩ : ∃ rm, Hid (M.room s.data.toList = rm) := ⟨_, rfl⟩
  rw [hct.out] at hc1 hc2
  rw [hrm.out] at hR2
  clear hd hR
  go_enter Tryd.func40, Tryd.ntmps40
  go_wp2_with fail
  refine (bsplit_at s _ he hs).mono ?_
  rintro e w1 ⟨ss, g, n, rfl, hB, hp, hn, hn2, hn1, hgB, hb1⟩
  have hg1 := hB.out.lt
  have hpl : Hid ((Lib.split s.data.toList M.bar).length = n) := by show _ = _; rw [← hp.out, List.length_map]; exact hn.out
  have hrn : Hid (rm = ct + 2 - n) := by rw [Hid, ← hrm.out, M.room, hct.out, hpl.out]
  have hcn : n ≤ ct + 1 := by rw [← hpl.out]; exact hc1
  have C2 : Calls Tryd.prog 48 #[.string s, .string ⟨#[32]⟩] w1 fun e w' => e = .returned (.int .i64 ct) ∧ w' = w1 := by
    rw [← hct.out]
    exact Tryd.strings_Count_one s 32 w1
  have hrI : ((ct : Int) - n + 2) = (rm : Int) := by have := hrn.out; omega
  have hrm2 : rm ≤ 65537 := by have := hrn.out; omega
  clear hc1
  go_wp2_with fail
  refine C2.mono ?_
  rintro e w1' ⟨rfl, rfl⟩
  go_wp2_with (refine wpList_make_ints _ rfl _ _ rfl _ rm rfl rfl rfl (by omega) ?_)
  intro w2 hB2 hb2
  obtain ⟨g2, hg2⟩ : ∃ g2, w1'.heap.size = g2 := ⟨_, rfl⟩
  have hgB2 : w.heap.size ≤ g2 := by have := hb1.size; omega
  have hbS : Hid (BlkS w2 g ss) := hB.out.below hb2 hg1
  have hbw := below_next hb1 hb2
  have hgg : g < g2 := by omega
  rw [hg2] at hB2 hb2 ⊢
  clear hB hg2 hb2 hb1 hg1 C2 hrI
  go_wp2
  go_loopw [26] (fun i wr => ∃ (k : Nat) (cur : List Int), k ≤ n ∧ i = .int .i64 k ∧ Hid (BlkS wr g ss) ∧ Hid (Blk wr g2 cur) ∧ Hid (cur.length = rm) ∧ Hid (M.rdRows k ((Lib.split s.data.toList M.bar).drop k) cur = R) ∧ Below w.heap.size w wr) (fun i _ => n - (intOf i).toNat)
  case atStart => exact ⟨0, _, Nat.zero_le _, rfl, hbS, hB2, by simp [Hid], hR2, hbw⟩
  case round =>
    clear hB2 hbS hbw hR2
    obtain ⟨k, cur, hk, rfl, hS, hB, hl, hR, hbr⟩ := hrel
    by_cases hlt : k < n
    · obtain ⟨x, hcx, hfx, hx⟩ := hS.out.at_ (k := k) (by rw [hn.out]; exact hlt)
      have HP := piece_at hp.out hx.out
      have hxs : x.size ≤ 65536 := by
        have := M.split_piece _ _ (Nat.le_refl _) _ (List.mem_of_getElem? HP)
        rw [len_byte', len_byte'] at this
        omega
      have hR1 : Hid (M.contT k (M.pieces x.data.toList) ((Lib.split s.data.toList M.bar).drop (k + 1)) cur = R) := by
        have := hR.out
        rwa [M.drop_at HP, M.rdRows_cons] at this
      obtain ⟨qs, hqs⟩ : ∃ qs, Hid ((Lib.split s.data.toList M.bar).drop (k + 1) = qs) := ⟨_, rfl⟩
      rw [hqs.out] at hR1
      have hg2l := hB.out.lt
      have hgl := hS.out.lt
      clear hR HP hfx hx
      go_wp2_with fail
      refine (ssplit_at x _ (he.below hbr) hxs).mono ?_
      rintro e w3 ⟨ts, g3, n3, rfl, hT, htp, htn, htn2, hg3, hb3⟩
      have hS3 := Lib.hid (hS.out.below hb3 hgl)
      have hB3 := Lib.hid (hB.out.below hb3 hg2l)
      have hbr3 := below_next hbr hb3
      have hg23 : g2 < g3 := by omega
      have htl : Hid ((M.pieces x.data.toList).length = n3) := by show _ = _; rw [← htp.out, List.length_map]; exact htn.out
      clear hS hB hbr hb3 hcx hgl hg2l
      go_wp2
      go_loopw [34] (fun i wq => ∃ (j : Nat) (cur : List Int), j ≤ n3 ∧ i = .int .i64 j ∧ Hid (BlkS wq g ss) ∧ Hid (BlkS wq g3 ts) ∧ Hid (Blk wq g2 cur) ∧ Hid (cur.length = rm) ∧ Hid (M.contT k ((M.pieces x.data.toList).drop j) qs cur = R) ∧ Below w.heap.size w wq) (fun i _ => n3 - (intOf i).toNat)
      case atStart => exact ⟨0, cur, Nat.zero_le _, rfl, hS3, hT, hB3, hl, hR1, hbr3⟩
      case round =>
        clear hS3 hT hB3 hl hR1 hbr3
        obtain ⟨j, cur, hj, rfl, hS, hT, hB, hl, hR, hbr⟩ := hrel
        by_cases hjt : j < n3
        · obtain ⟨y, hcy, hfy, hy⟩ := hT.out.at_ (k := j) (by rw [htn.out]; exact hjt)
          have HQ := piece_at htp.out hy.out
          have hys : y.size ≤ 65536 := by
            have := M.pieces_le _ _ (List.mem_of_getElem? HQ)
            rw [len_byte', len_byte'] at this
            omega
          have hR1 : Hid (M.contT k (y.data.toList :: (M.pieces x.data.toList).drop (j + 1)) qs cur = R) := by
            have := hR.out
            rwa [M.drop_at HQ] at this
          have hg2l := hB.out.lt
          have hgl := hS.out.lt
          have hgl3 := hT.out.lt
          clear hR HQ hfy hy
          by_cases hok : ∃ v, Lib.atoiAll y.data.toList = .ok v
          · obtain ⟨v, hv⟩ := hok
            have hvb := Lib.atoiAll_bounds hv
            obtain ⟨hv1, hv2⟩ := hvb
            by_cases hin : 0 ≤ v ∧ v < rm
            · obtain ⟨hv3, hv4⟩ := hin
              obtain ⟨u, rfl⟩ : ∃ u : Nat, v = u := ⟨v.toNat, by omega⟩
              have hR2 : Hid (M.contT k ((M.pieces x.data.toList).drop (j + 1)) qs (cur.set u k) = R) := by
                rw [Hid, ← hR1.out]
                exact (M.contT_some (M.nm_ok hv rfl (by rw [hl.out]; omega))).symm
              have HV := Lib.hid hv
              have hl2 : Hid ((cur.set u (k : Int)).length = rm) := by rw [Hid, List.length_set]; exact hl.out
              have hll := Lib.hid hl.out
              clear hR1 hv hl
              go_wp2_with fail
              refine (atoi_ok y u _ hys HV.out).mono ?_
              rintro e w4 ⟨rfl, hb4⟩
              have hB4 := Lib.hid (hB.out.below hb4 hg2l)
              have hS4 := Lib.hid (hS.out.below hb4 hgl)
              have hT4 := Lib.hid (hT.out.below hb4 hgl3)
              obtain ⟨z, hcz, hfz, hz⟩ := hB4.out.at_ (k := u) (by rw [hll.out]; omega)
              have hbr4 := below_next hbr hb4
              clear hB hS hT hbr hb4 hcy hz
              go_wp2
              go_roundw
              case rel => exact ⟨j + 1, _, by omega, by go_num, hS4.out.far (by omega) _ _, hT4.out.far (by omega) _ _, hB4.out.set_ u _, hl2, hR2, hbr4.setCell hgB2 _⟩
              case measure => simp [intOf] <;> omega
            · have hf : Hid (R = none) := by
                rw [Hid, ← hR1.out]
                exact M.contT_none (M.nm_out hv (by rw [hl.out]; exact hin))
              have HV := Lib.hid hv
              clear hR1 hv
              rcases Int.lt_or_le v 0 with hneg | hneg
              · go_wp2_with fail
                refine (atoi_ok y v _ hys HV.out).mono ?_
                rintro e w4 ⟨rfl, hb4⟩
                go_wp2
                go_ret2
                exact Rres.none_ hf.out (below_next hbr hb4)
              · have hge : (rm : Int) ≤ v := by omega
                have hnn : ¬ v < 0 := by omega
                go_wp2_with fail
                refine (atoi_ok y v _ hys HV.out).mono ?_
                rintro e w4 ⟨rfl, hb4⟩
                go_wp2
                go_ret2
                exact Rres.none_ hf.out (below_next hbr hb4)
          · have hbad : ∀ v, Lib.atoiAll y.data.toList ≠ .ok v := fun v e => hok ⟨v, e⟩
            have hf : Hid (R = none) := by
              rw [Hid, ← hR1.out]
              exact M.contT_none (nm_bad hbad)
            have HB := Lib.hid hbad
            clear hR1 hok hbad
            go_wp2_with fail
            refine (atoi_bad y _ (he.below hbr) hys HB.out).mono ?_
            rintro e w4 ⟨⟨x1, t1, N1, rfl⟩, hb4⟩
            go_wp2
            go_ret2
            exact Rres.none_ hf.out (below_next hbr hb4)
        · have : j = n3 := by omega
          subst this
          have hR2 : Hid (M.rdRows (k + 1 : Nat) ((Lib.split s.data.toList M.bar).drop (k + 1)) cur = R) := by
            have := hR.out
            rw [List.drop_of_length_le (by rw [htl.out]; exact Nat.le_refl _), M.contT_nil] at this
            rw [Hid, hqs.out]
            exact this
          clear hR
          go_wp2
          go_roundw
          case rel => exact ⟨k + 1, cur, by omega, by go_num, hS, hB, hl, hR2, hbr⟩
          case measure => simp [intOf] <;> omega
    · have : k = n := by omega
      subst this
      have hf : Hid (R = some cur) := by
        have := hR.out
        rw [List.drop_of_length_le (by rw [hpl.out]; exact Nat.le_refl _)] at this
        exact this.symm
      clear hR
      go_wp2
      go_ret2
      exact Rres.some_ hf.out hl.out hB.out.rd hrm2 hbr
end Go.Proofs.YtnhibkkkpmaddaaDoor
