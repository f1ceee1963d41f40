/-
  Contract: the trie of a list (walk). No statement is proved here.
-/
import Derived.Test.YtjodhihcckcefaaU20
namespace Go.Proofs.Ytjodhihcckcefaa
open Go.RowKit Go.Maps

/-- A box of two cells. -/
def Bx2 (w : World) (g : Nat) (T : TypeId) (u v : Value) : Prop := w.heap[g]? = some (.cells #[u, v] T (0, 0))
section
variable {w w' : World} {g : Nat} {T : TypeId} {u v : Value}
theorem Bx2.new (w : World) (T : TypeId) (u v : Value) : Bx2 (w.alloc (.cells #[u, v] T)) w.heap.size T u v := heap_alloc_new w _
theorem Bx2.lt (h : Bx2 w g T u v) : g < w.heap.size := heap_ltT h
theorem Bx2.below (h : Bx2 w g T u v) (hb : Below w.heap.size w w') : Bx2 w' g T u v := (hb.block g h.lt).trans h
theorem Bx2.mv {B : Nat} (h : Bx2 w g T u v) (hb : Below B w w') (hg : g < B) : Bx2 w' g T u v := (hb.block g hg).trans h
theorem Bx2.cells (h : Bx2 w g T u v) : w.cell? ⟨g, 0, none⟩ = some u ∧ w.cell? ⟨g, 1, none⟩ = some v ∧ w.frozen? ⟨g, 0, none⟩ = false ∧ w.frozen? ⟨g, 1, none⟩ = false := by
  refine ⟨?_, ?_, by unfold Bx2 at h; simp [World.frozen?, h], by unfold Bx2 at h; simp [World.frozen?, h]⟩ <;> rw [cell_of_row w g _ _ _ _ h] <;> rfl
theorem Bx2.set2 (h : Bx2 w g T u v) (a b : Value) : Bx2 ((w.setCell ⟨g, 0, none⟩ a).setCell ⟨g, 1, none⟩ b) g T a b := heap_setCell_same _ g 1 _ _ b (heap_setCell_same w g 0 _ _ a h)
theorem Bx2.far (h : Bx2 w g T u v) {b o : Nat} (hne : g ≠ b) (a : Value) : Bx2 (w.setCell ⟨b, o, none⟩ a) g T u v := (Below.heap_setCell _ _ _ _ hne).trans h
end
theorem key_at {x : List Int} {k : Nat} {z : Int} (hk : x[k]? = some z) (hby : M.By x) (w : World) : (Instr.index 9 (keyV x) (.int .i64 k)).run Try.prog w = .ok (.int .u8 z) w := by
  have hkl := (List.getElem?_eq_some_iff.1 hk).1
  have hs : (⟨(M.kU x).toArray⟩ : ByteArray).size = x.length := by rw [← M.kU_len x]; simp [ByteArray.size]
  have hz := hby z (List.mem_of_getElem? hk)
  unfold keyV
  rw [run_index_string _ _ _ _ _ Try.underlying9, dif_pos (by rw [hs]; omega)]
  congr 2
  have h1 : (M.kU x)[k]? = some (UInt8.ofNat z.toNat) := by unfold M.kU; rw [List.getElem?_map, hk]; rfl
  have h2 : ∀ (j : Nat) (hj : j < (⟨(M.kU x).toArray⟩ : ByteArray).size), j = k → ((⟨(M.kU x).toArray⟩ : ByteArray)[j]'hj) = UInt8.ofNat z.toNat := fun j hj e => by
    subst e
    have h3 : (M.kU x)[j]? = some ((M.kU x)[j]'(by rw [M.kU_len]; exact hkl)) := List.getElem?_eq_getElem _
    rw [h1] at h3
    injection h3 with h3
    rw [h3]
    rfl
  rw [h2 _ _ (by omega), UInt8.toNat_ofNat']
  omega
theorem keyS {s : List UInt8} : Value.string ⟨s.toArray⟩ = keyV (M.uW s) := by unfold keyV; rw [M.kU_uW]
/-- A block of another type is written. -/
theorem Nds.other {w : World} {g lo n NN b o : Nat} {ns : List Nd} {cs : Array Value} {T : TypeId} {fr : Nat × Nat} (h : Nds w g lo n NN ns) (hb : w.heap[b]? = some (.cells cs T fr)) (h1 : T ≠ 64) (h2 : T ≠ 3) (u : Value) : Nds (w.setCell ⟨b, o, none⟩ u) g lo n NN ns := by
  have key : ∀ (k : Nat) cs' T' fr', w.heap[k]? = some (.cells cs' T' fr') → T' = 64 ∨ T' = 3 → (w.setCell ⟨b, o, none⟩ u).heap[k]? = some (.cells cs' T' fr') := fun k cs' T' fr' hk hT => by
    refine (Below.heap_setCell w ⟨b, o, none⟩ u k fun e => ?_).trans hk
    simp only at e
    subst e
    rw [hb] at hk
    injection hk with hk
    injection hk with _ hk _
    subst hk
    rcases hT with e | e
    · exact h1 e
    · exact h2 e
  obtain ⟨cs2, gs, a1, a2, a3, a4⟩ := h
  refine ⟨cs2, gs, key _ _ _ _ a1 (Or.inl rfl), a2, a3, fun i x hx => ?_⟩
  obtain ⟨b1, b2, b3, b4, b5⟩ := a4 i x hx
  exact ⟨b1, b2, b3, b4, key _ _ _ _ b5 (Or.inr rfl)⟩
set_option maxRecDepth 100000 in
set_option maxHeartbeats 4000000 in
theorem tof_any (L : Option Addr) (c N : Nat) (rows S : List (List Int)) (n : Int) (w : World) (h : RdS w L rows) (hN : rows.length = N) (hm : N ≤ 9223372036854775807) (hP : Pfx rows S) (R : Int) (hR : M.chE rows n = R) :
    Calls Try.prog 41 #[.slice L N c, .int .i64 n] w fun e w' =>
      (R = 0 ∧ ∃ g, e = .returned (.tuple #[.agg #[.int .i64 n, .slice (some ⟨g, 0, none⟩) S.length S.length], .int .i64 0]) ∧ RdN w' (some ⟨g, 0, none⟩) (trN S rows n.toNat) ∧ Below w.heap.size w w') ∨
      (R ≠ 0 ∧ e = .returned (.tuple #[.agg #[.int .i64 0, .slice none 0 0], .int .i64 R]) ∧ Below w.heap.size w w') := by
  obtain ⟨W, hW⟩ : ∃ W, w.alloc (.cells #[.int .i64 0, .slice none 0 0] 56) = W := ⟨_, rfl⟩
  have bW : Below w.heap.size w W := by rw [← hW]; exact (Below.refl _ _).alloc (Nat.le_refl _) _
  have xW : Bx2 W w.heap.size 56 (.int .i64 0) (.slice none 0 0) := by rw [← hW]; exact Bx2.new _ _ _ _
  have zW : W.heap.size = w.heap.size + 1 := by rw [← hW]; simp
  have C1 := Lib.hid (tcheck_any L c N rows n W (h.below bW) hN hm)
  by_cases hz : M.chE rows n = 0
  · have hv := M.chE_zero.1 hz
    have hby := ch_by hz
    rw [hz] at hR C1
    subst hR
    obtain ⟨nn, rfl⟩ := Int.eq_ofNat_of_zero_le (a := n) (by have := hv.n0; omega)
    have hn16 : nn ≤ 16 := by have := hv.n1; omega
    have hn1 : 1 ≤ nn := by have := hv.n0; omega
    have HV := Lib.hid (And.intro hv.ck hby.2)
    have hSl := pre_count hP.up hP.mem
    have hSz : Sz (pfF rows) S.length := Sz.of_asc hP.up (fun x => by rw [pfF_some, hP.mem, pfs_iff]) (fun x hx => by
      rw [pfF_some, pfs_iff] at hx
      obtain ⟨y, hy, hp⟩ := hx
      exact fun z hz => (hby.2 y hy).1 z (hp.subset hz))
    obtain ⟨q, hq⟩ : ∃ q, S.length = q := ⟨_, rfl⟩
    rw [hq] at hSl hSz ⊢
    have hq6 : q ≤ 65537 := by have := hv.st; omega
    have CK := Lib.hid (fun w' (hb : Below w.heap.size w w') => prefixes_any L c N rows w' (h.below hb) hN (by have := hv.len; omega) hby.2)
    have HN := Lib.hid hN
    have HH := Lib.hid h
    have HP := Lib.hid hP
    have HQ := Lib.hid hq
    have HSZ := Lib.hid hSz
    have XW := Lib.hid xW
    have hN4 : N ≤ 4096 := by have := hv.len; omega
    clear hz h hN hP hq hSz hv hby hSl
    go_enter Try.func41, Try.ntmps41
    go_wp2_with fail
    refine C1.out.mono ?_
    rintro e w1 ⟨rfl, hb1⟩
    go_wp2_with fail
    refine (CK.out _ (below_next bW hb1)).mono ?_
    rintro e w2 ⟨b, hb, rfl, hMp, hb2⟩
    have B2 := Lib.hid (below_next (below_next bW hb1) hb2)
    have X2 := Lib.hid ((XW.out.below hb1).below hb2)
    have HMp := Lib.hid hMp
    clear hb1 hb2 hMp
    go_wp2_with fail
    refine (ordered_any b (N * 1001) q (pfF rows) w2 HMp.out HSZ.out (by omega) (by omega)).mono ?_
    rintro e w3 ⟨A, ca, ks, rfl, hkl, hko, hkr, hb3⟩
    have hSe : ks.map M.uW = S := M.asc_uniq hko.asc HP.out.up fun x => by rw [hko.mem, pfF_some, HP.out.mem, pfs_iff]
    have HK := Lib.hid (And.intro hkl (And.intro hko hSe))
    have HT := Lib.hid hkr
    have X3 := Lib.hid (X2.out.below hb3)
    have B3 := Lib.hid (below_next B2.out hb3)
    have x3l := X3.out.lt
    have HR3 := Lib.hid (HH.out.below B3.out)
    have hmm := @run_makeMap Try.prog
    clear hkl hko hkr hb3 hSe HMp X2 B2 CK C1 XW
    go_wp2_with (first
      | (refine wpList_make_nodes w3 rfl _ _ rfl q rfl rfl (by omega) ?_; intro w4 hN4s hb4 hz4)
      | fail)
    obtain ⟨g, hg⟩ : ∃ g, w3.heap.size = g := ⟨_, rfl⟩
    have hM5 := MpI.make w4
    have hb5 : Below g w3 (w4.alloc (.map #[] 0)) := by rw [← hg]; exact hb4.alloc hb4.size _
    have hN5 := (hN4s.out (g + 1) nn).below ((Below.refl _ w4).alloc (Nat.le_refl _) (.map #[] 0))
    have hz5 : (w4.alloc (.map #[] 0)).heap.size = g + 2 := by rw [World.size_alloc, hz4, hg]
    rw [hg] at hN5 hz4 ⊢
    rw [hz4] at hM5
    obtain ⟨W5, hW5⟩ : ∃ W5, w4.alloc (.map #[] 0) = W5 := ⟨_, rfl⟩
    rw [hW5] at hM5 hb5 hN5 hz5 ⊢
    have s1 : Hid (MpI W5 (g + 1) 0 (nbF (S.take 0))) := by
      show MpI _ _ _ _
      have e : nbF (S.take 0) = fun _ => none := by funext x; simp [nbF]
      rw [e]; exact hM5
    have s2 : Hid (Nds W5 g (g + 1) nn q (trK (S.take 0) nn)) := hN5
    have s3 := Lib.hid hb5
    have HG := Lib.hid hg
    have hgw : w.heap.size < g := by omega
    clear hW5 hM5 hb5 hN5 hN4s hb4 hz4 hz5 hg
    go_wp2
    go_loopw [31] (fun v wr => ∃ k : Nat, k ≤ q ∧ v = .int .i64 k ∧ Hid (MpI wr (g + 1) k (nbF (S.take k))) ∧ Hid (Nds wr g (g + 1) nn q (trK (S.take k) nn)) ∧ Hid (Below g w3 wr)) (fun v _ => q - (intOf v).toNat)
    case atStart => exact ⟨0, Nat.zero_le _, rfl, s1.out, s2.out, s3.out⟩
    case round =>
      clear s1 s2 s3
      obtain ⟨k, hk, rfl, hM, hD, hb⟩ := hrel
      by_cases hlt : k < q
      · have hkS : k < S.length := by rw [HQ.out]; exact hlt
        have hkl : k < ks.length := by rw [HK.out.1]; exact hlt
        obtain ⟨s, hs⟩ : ∃ s, ks[k]? = some s := ⟨_, List.getElem?_eq_getElem hkl⟩
        have hsx : M.uW s = M.row S k := by
          have h1 := M.row_at hkS
          rw [← HK.out.2.2, List.getElem?_map, hs] at h1
          injection h1 with h1
          rw [HK.out.2.2] at h1
          exact h1
        obtain ⟨bt, off, rfl, hBt, hbt, hct⟩ := (HT.out.below (by rw [HG.out]; exact hb.out)) (by omega)
        have hc := hct k s hs
        change wr.cell? _ = some (.string ⟨s.toArray⟩) at hc
        rw [keyS, hsx] at hc
        have hxf := row_fresh HP.out.up hkS
        have htl : (S.take k).length = k := by simp; omega
        obtain ⟨u, hu, hpu⟩ := (HP.out.mem _).1 (M.row_mem hkS)
        have hxv : (∀ z ∈ M.row S k, 0 ≤ z ∧ z < (nn : Int)) ∧ (M.row S k).length ≤ 1000 := ⟨fun z hz => (M.check_zero_u (HV.out.1 u hu)).2.2.2 z (hpu.subset hz), by have := (HV.out.2 u hu).2; have := hpu.length_le; omega⟩
        have hxb : M.By (M.row S k) := fun z hz => by have := hxv.1 z hz; omega
        have HTR : Hid (∀ y ∈ S.take k, y.length ≤ (M.row S k).length) := fun y hy => len_le_of_lt (mem_take_lt HP.out.up hkS hy)
        have HTK := Lib.hid (take_row hkS)
        have HND : Hid ((S.take k).Nodup) := M.asc_nodup (asc_take HP.out.up k)
        have hpar := fun y z e => HP.out.parent hkS (y := y) (z := z) e
        have honly := HP.out.only hkS
        obtain ⟨x, hx⟩ : ∃ x, M.row S k = x := ⟨_, rfl⟩
        obtain ⟨T, hT⟩ : ∃ T, S.take k = T := ⟨_, rfl⟩
        rw [hx] at hc hxf hxv hxb HTR HTK hpar honly
        rw [hT] at hxf htl HTR HTK HND hpar hM hD
        have HX := Lib.hid (And.intro hxf (And.intro htl (And.intro hxv (And.intro hxb hpar))))
        clear hct hs hsx hu hpu hxf htl hxv hxb hpar hx hT hkl hBt hbt u
        go_wp2_with fail
        refine (newNode_any nn wr (by omega)).mono ?_
        rintro e w6 ⟨h', hh, rfl, hB6, hb6⟩
        have hD6 := hD.out.below hb6
        obtain ⟨u0, v0, hu0, hv0, hf0, hf1⟩ := hD6.at_ hlt
        have hlenT : (trK T nn).length = k := by rw [trK_len]; exact HX.out.2.1
        have hgh : g + 1 ≤ h' := by
          have := hM.out.lt
          omega
        have hD7 := hD.out.push hb6 hh hB6 (by simp) hlenT hlt hgh
        have hM6 := hM.out.mv hb6 hM.out.lt
        obtain ⟨o6, ho6, hoc6⟩ := hM6.obj
        have hgz : g ≤ wr.heap.size := by have := hM.out.lt; omega
        have hB7 := ((hb.out.trans (hb6.mono hgz)).setCell (p := ⟨g, k * 2, none⟩) (Nat.le_refl g) (.slice (some ⟨h', 0, none⟩) nn nn)).setCell (p := ⟨g, k * 2 + 1, none⟩) (Nat.le_refl g) (.bool false)
        have hM7 : MpI ((w6.setCell ⟨g, k * 2, none⟩ (.slice (some ⟨h', 0, none⟩) nn nn)).setCell ⟨g, k * 2 + 1, none⟩ (.bool false)) (g + 1) k (nbF T) := hM6.same ((Below.heap_setCell _ ⟨g, k * 2 + 1, none⟩ _ (g + 1) (by show g + 1 ≠ g; omega)).trans (Below.heap_setCell _ ⟨g, k * 2, none⟩ _ (g + 1) (by show g + 1 ≠ g; omega)))
        have hz7 : g ≤ ((w6.setCell ⟨g, k * 2, none⟩ (.slice (some ⟨h', 0, none⟩) nn nn)).setCell ⟨g, k * 2 + 1, none⟩ (.bool false)).heap.size := by have := hM7.lt; omega
        have HM7 := Lib.hid hM7
        have HD7 := Lib.hid hD7
        have HB7 := Lib.hid hB7
        have HZ7 := Lib.hid hz7
        clear hM7 hD7 hB7 hz7 hM6 hD6 ho6 hoc6 hlenT hgh hh hB6 hb6 hM hD hb hgz o6
        have hN1 := nbF_step HX.out.1
        rw [HX.out.2.1] at hN1
        have HN1 := Lib.hid hN1
        clear hN1
        obtain ⟨m, hm0⟩ : ∃ m, x.length = m := ⟨_, rfl⟩
        have hlen := fun ty w => key_len (x := x) ty w
        rw [hm0] at hlen
        have HL := Lib.hid hm0
        have hm1 : m ≤ 1000 := by rw [← hm0]; exact HX.out.2.2.1.2
        clear hm0
        cases m with
        | zero =>
          have hx0 : x = [] := List.length_eq_zero_iff.1 HL.out
          obtain rfl : k = 0 := honly hx0
          have hT0 : T = [] := List.length_eq_zero_iff.1 HX.out.2.1
          have HE : Hid (trK T nn ++ [(List.replicate nn (-1), false)] = trK (S.take (0 + 1)) nn) := by
            show _ = _
            rw [HTK.out, hT0, hx0]
            exact trK_root
          clear hx0 hT0 honly
          go_wp2_with (first
            | (refine wpList_iput _ rfl _ _ _ rfl (g + 1) 0 (nbF T) rfl HM7.out (by unfold maxLen; omega) x 0 rfl rfl (by omega) HX.out.2.2.2.1 HX.out.2.2.1.2 ?_
               intro w8 hM8 hg8
               have hlw := fun ty => hlen ty w8)
            | fail)
          obtain ⟨o7, ho7, hoc7⟩ := HM7.out.obj
          have HM8 : Hid (MpI w8 (g + 1) (0 + 1) (nbF (S.take (0 + 1)))) := by show MpI _ _ _ _; rw [HTK.out, ← HN1.out]; exact hM8
          have HD8 : Hid (Nds w8 g (g + 1) nn q (trK (S.take (0 + 1)) nn)) := by show Nds _ _ _ _ _ _; rw [← HE.out]; exact HD7.out.grown hg8 ho7 hoc7
          have HB8 := Lib.hid (HB7.out.grown hg8 HZ7.out (fun j hj => by cases hj; omega))
          clear hM8 hg8 ho7 hoc7 HM7 HD7 HB7 HZ7 hlen hlw
          go_roundw
          case rel => exact ⟨0 + 1, by omega, by go_num, HM8, HD8, HB8⟩
          case measure => simp [intOf]; omega
        | succ m =>
          obtain ⟨y, z, hxy⟩ := split_last (x := x) (by rw [HL.out]; omega)
          have hyT := HX.out.2.2.2.2 y z hxy
          have hyl : y.length = m := by have := HL.out; rw [hxy] at this; simpa using this
          have hzv := HX.out.2.2.1.1 z (by rw [hxy]; simp)
          obtain ⟨zn, rfl⟩ := Int.eq_ofNat_of_zero_le hzv.1
          have hzn : zn < nn := by omega
          have hxa : x[m]? = some ((zn : Nat) : Int) := by rw [hxy, ← hyl]; simp
          have hcut := fun w => key_cut (x := x) (n := m) (by rw [HL.out]; omega) w
          rw [show x.take m = y by rw [hxy, ← hyl]; simp] at hcut
          have hidx := fun w => key_at hxa HX.out.2.2.2.1 w
          have hyb : M.By y := fun a ha => HX.out.2.2.2.1 a (by rw [hxy]; simp [ha])
          have hne : y ≠ x := fun e => by have := congrArg List.length e; rw [hyl, HL.out] at this; omega
          obtain ⟨p, hp⟩ : ∃ p, T.idxOf y = p := ⟨_, rfl⟩
          have hpk : p < k := by rw [← hp, ← HX.out.2.1]; exact List.idxOf_lt_length_iff.2 hyT
          have hlk : (updN (nbF T) x k y).getD 0 = ((p : Nat) : Int) := by
            unfold updN
            rw [if_neg hne, nbF_get hyT, hp]
          have hat := trK_at (n := nn) hyT [(List.replicate nn (-1), false)]
          rw [hp] at hat
          have hst := trK_step (n := nn) (z := zn) HND.out HX.out.1 HTR.out hyT hxy.symm
          rw [hp, HX.out.2.1, ← HTK.out] at hst
          have HS := Lib.hid (And.intro hst (And.intro hat (And.intro hlk (And.intro hyb (show y.length ≤ 1000 by omega)))))
          clear hst hat hlk hyb hxa hxy hyT hyl hzv hne hp honly
          have e1 : ((m + 1 : Nat) : Int) = (m : Int) + 1 := by omega
          rw [e1] at hlen
          clear e1
          go_upto_region 14 with (first
            | (refine wpList_iput _ rfl _ _ _ rfl (g + 1) k (nbF T) rfl HM7.out (by unfold maxLen; omega) x k rfl rfl (by omega) HX.out.2.2.2.1 HX.out.2.2.1.2 ?_
               intro w8 hM8 hg8
               have hlw := fun ty => hlen ty w8)
            | fail)
          obtain ⟨o7, ho7, hoc7⟩ := HM7.out.obj
          have HM8 := Lib.hid hM8
          have HD8 := Lib.hid (HD7.out.grown hg8 ho7 hoc7)
          have HB8 := Lib.hid (HB7.out.grown hg8 HZ7.out (fun j hj => by cases hj; omega))
          have hlook := (hM8.mv ((Below.refl _ _).drew) hM8.lt).look HS.out.2.2.2.1 HS.out.2.2.2.2 HS.out.2.2.1
          clear hg8 ho7 hoc7 HM7 HD7 HB7 HZ7 hlw hlen o7
          obtain ⟨h2, hc2, hlo2, hnl2, hB2, hset⟩ := HD8.out.next HS.out.2.1
          obtain ⟨z1, hd2, hf2, _⟩ := hB2.at_ (k := zn) (by rw [hnl2]; exact hzn)
          have hpq : p < q := by omega
          have hne2 : g + 1 ≠ h2 := fun e => by
            obtain ⟨o8, ho8, hoc8⟩ := hM8.obj
            rw [e] at ho8
            unfold Blk at hB2
            rw [hB2] at ho8
            injection ho8 with ho8
            exact hoc8 _ _ _ ho8.symm
          have HF : Hid (MpI (w8.setCell ⟨h2, zn, none⟩ (.int .i64 k)).drew (g + 1) (k + 1) (nbF (S.take (k + 1))) ∧ Nds (w8.setCell ⟨h2, zn, none⟩ (.int .i64 k)).drew g (g + 1) nn q (trK (S.take (k + 1)) nn) ∧ Below g w3 (w8.setCell ⟨h2, zn, none⟩ (.int .i64 k)).drew) := by
            refine ⟨?_, ?_, (HB8.out.setCell (p := ⟨h2, zn, none⟩) (by show g ≤ h2; omega) _).drew⟩
            · rw [HTK.out, ← HN1.out]
              exact hM8.same (Below.heap_setCell _ _ _ _ hne2)
            · rw [← HS.out.1]
              exact (hset zn k).below (Below.refl _ _).drew
          clear hset hB2 HM8 HD8 HB8 hM8 hlo2 hnl2 hne2
          go_still_tail 14, (by kernel_rfl)
          change wpList _ _ _ _ _ w8.drew
          go_wp2
          go_roundw
          case rel => exact ⟨k + 1, by omega, by go_num, HF.out.1, HF.out.2.1, HF.out.2.2⟩
          case measure => simp [intOf]; omega
      · obtain rfl : k = q := by omega
        rw [List.take_of_length_le (by rw [HQ.out]; omega)] at hM hD
        have HM := hM
        have HE0 : Hid (Nds wr g (g + 1) nn k (trE S (rows.take 0) nn)) := by show Nds _ _ _ _ _ _; rw [List.take_zero, trE_nil]; exact hD.out
        have HB0 := hb
        clear hM hD hb hlt hk
        obtain ⟨W9, rfl⟩ : ∃ W : World, W = wr := ⟨_, rfl⟩
        go_wp2
        go_loopw [66] (fun v wr => ∃ j : Nat, j ≤ N ∧ v = .int .i64 j ∧ Hid (MpI wr (g + 1) k (nbF S)) ∧ Hid (Nds wr g (g + 1) nn k (trE S (rows.take j) nn)) ∧ Hid (Below g w3 wr)) (fun v _ => N - (intOf v).toNat)
        case atStart => exact ⟨0, Nat.zero_le _, rfl, HM.out, HE0.out, HB0.out⟩
        case round =>
          clear HM HE0 HB0
          obtain ⟨j, hj, rfl, hM, hD, hb⟩ := hrel
          by_cases hlt : j < N
          · have hjl : j < rows.length := by rw [HN.out]; exact hlt
            obtain ⟨b2, off, A2, cc, m, rfl, _, hc, hrd, hml⟩ := (HR3.out.below (by rw [HG.out]; exact hb.out)).at_ hjl
            have hby := HV.out.2 _ (M.row_mem hjl)
            have hyS : M.row rows j ∈ S := (HP.out.mem _).2 ⟨_, M.row_mem hjl, List.prefix_refl _⟩
            have hat := trE_at (l := rows.take j) (n := nn) hyS
            have hst := trE_step (l := rows.take j) (n := nn) (M.asc_nodup HP.out.up) hyS
            rw [← take_row hjl] at hst
            have hlk := nbF_get hyS
            have hpl := List.idxOf_lt_length_iff.2 hyS
            rw [HQ.out] at hpl
            obtain ⟨p, hp⟩ : ∃ p, S.idxOf (M.row rows j) = p := ⟨_, rfl⟩
            rw [hp] at hat hst hlk hpl
            have CK := Lib.hid (key_any A2 cc m (M.row rows j) wr hrd hml.out (by have := hml.out; omega) hby.1)
            have HS := Lib.hid (And.intro hst (And.intro hat (And.intro hlk hby)))
            obtain ⟨x, hx⟩ : ∃ x, M.row rows j = x := ⟨_, rfl⟩
            rw [hx] at CK HS
            clear hst hat hlk hby hp hyS hrd hml hx
            go_wp2_with fail
            refine CK.out.mono ?_
            rintro e w8 ⟨rfl, hb8⟩
            have hM8 := hM.out.mv hb8 hM.out.lt
            have hD8 := hD.out.below hb8
            have hgz : g ≤ wr.heap.size := by have := hM.out.lt; omega
            have hB8 := (hb.out.trans (hb8.mono hgz)).setCell (p := ⟨g, p * 2 + 1, none⟩) (Nat.le_refl g) (.bool true)
            have hlook := hM8.look HS.out.2.2.2.1 HS.out.2.2.2.2 HS.out.2.2.1
            obtain ⟨u0, v0, hu0, hv0, hf0, hf1⟩ := hD8.at_ hpl
            have hD9 := hD8.mark HS.out.2.1 true
            simp only at hD9
            rw [HS.out.1] at hD9
            have hM9 : MpI (w8.setCell ⟨g, p * 2 + 1, none⟩ (.bool true)) (g + 1) k (nbF S) := hM8.same (Below.heap_setCell _ ⟨g, p * 2 + 1, none⟩ _ (g + 1) (by show g + 1 ≠ g; omega))
            have HF := Lib.hid (And.intro hM9 (And.intro hD9 hB8))
            clear hM9 hD9 hB8 hM8 hD8 hM hD hb hb8 HS CK hgz
            go_wp2
            go_roundw
            case rel => exact ⟨j + 1, by omega, by go_num, HF.out.1, HF.out.2.1, HF.out.2.2⟩
            case measure => simp [intOf]; omega
          · obtain rfl : j = N := by omega
            rw [List.take_of_length_le (by rw [HN.out]; omega)] at hD
            have hx := X3.out.mv hb.out (by omega)
            obtain ⟨x0, x1, f0, f1⟩ := hx.cells
            have hx2 := hx.set2 (.int .i64 nn) (.slice (some ⟨g, 0, none⟩) k k)
            obtain ⟨r0, r1, _, _⟩ := hx2.cells
            have hD2 := (hD.out.other (b := w.heap.size) (o := 0) hx (by decide) (by decide) (.int .i64 nn)).other (b := w.heap.size) (o := 1) (heap_setCell_same _ w.heap.size 0 _ _ (.int .i64 nn) hx) (by decide) (by decide) (.slice (some ⟨g, 0, none⟩) k k)
            have HF : Hid (RdN ((wr.setCell ⟨w.heap.size, 0, none⟩ (.int .i64 nn)).setCell ⟨w.heap.size, 1, none⟩ (.slice (some ⟨g, 0, none⟩) k k)) (some ⟨g, 0, none⟩) (trN S rows nn)) := hD2.rdn
            have hbf : Below w.heap.size w wr := B3.out.trans (hb.out.mono (by omega))
            have HB := Lib.hid ((hbf.setCell (p := ⟨w.heap.size, 0, none⟩) (Nat.le_refl w.heap.size) (.int .i64 nn)).setCell (p := ⟨w.heap.size, 1, none⟩) (Nat.le_refl w.heap.size) (.slice (some ⟨g, 0, none⟩) k k))
            clear hx hx2 hD2 hbf hM hD hb
            go_wp2
            refine bodyPost_ret (v := .tuple #[.agg #[.int .i64 nn, .slice (some ⟨g, 0, none⟩) k k], .int .i64 0]) (by simp [results, Try.f41, go_sem, r0, r1]) rfl ?_
            exact Or.inl ⟨by trivial, g, rfl, HF.out, HB.out⟩
  · rw [hR] at C1 hz
    have hz1 : (R != 0) = true := by simpa using hz
    have HZ := Lib.hid hz
    have XW := Lib.hid xW
    clear hR h hN hP hz xW
    go_enter Try.func41, Try.ntmps41
    go_wp2_with fail
    refine C1.out.mono ?_
    rintro e w1 ⟨rfl, hb1⟩
    have hx := XW.out.below hb1
    obtain ⟨x0, x1, f0, f1⟩ := hx.cells
    obtain ⟨r0, r1, _, _⟩ := (hx.set2 (.int .i64 0) (.slice none 0 0)).cells
    have HB := Lib.hid (((below_next bW hb1).setCell (p := ⟨w.heap.size, 0, none⟩) (Nat.le_refl w.heap.size) (.int .i64 0)).setCell (p := ⟨w.heap.size, 1, none⟩) (Nat.le_refl w.heap.size) (.slice none 0 0))
    clear hx hb1
    go_wp2
    refine bodyPost_ret (v := .tuple #[.agg #[.int .i64 0, .slice none 0 0], .int .i64 R]) (by simp [results, Try.f41, go_sem, r0, r1]) rfl ?_
    exact Or.inr ⟨HZ.out, rfl, HB.out⟩
end Go.Proofs.Ytjodhihcckcefaa
