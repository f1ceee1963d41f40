/-
  The walk of the law WalksKnown. No statement is proved here.
-/
import Derived.Test.YthemaombpddbbaaWn1
namespace Go.Proofs.Ythemaombpddbbaa
open Go.RowKit
open Mc (Ed Ma)

/-- A row of two edges that was just laid. -/
theorem own_two (w : World) (base : Nat) (h : base ≤ w.heap.size) (x y u v : Int) : OwR (w.alloc (.cells #[.int .i64 x, .int .i64 y, .int .i64 u, .int .i64 v] 73)) base (.slice (some ⟨w.heap.size, 0, none⟩) 2 2) [(x, y), (u, v)] :=
  ⟨rfl, .inr ⟨w.heap.size, 2, #[.int .i64 x, .int .i64 y, .int .i64 u, .int .i64 v], rfl, h, heap_alloc_new w _, Nat.le_refl _, by unfold maxLen; decide, rfl, rfl⟩⟩
set_option maxRecDepth 100000 in
set_option maxHeartbeats 8000000 in
theorem lawKnown_walk (w : World) :
    Calls Try.prog 7 #[] w fun e w' => e = .returned (.bool true) ∧ Below w.heap.size w w' := by
  obtain ⟨r0, hr0, hr1, hr2, hr3⟩ := info_parts row_info
  obtain ⟨R, hR⟩ : ∃ R, Mc.rg6.r = R := ⟨_, rfl⟩
  have hRl : Hid (R.length = 64) := by show _ = _; rw [← hR]; exact Mc.rg6_len
  have hRat : Hid (∀ s, s < 64 → R[s]? = some (Mc.rk6 s)) := fun s hs => by rw [← hR]; exact Mc.rg6_at hs
  have CP := fun A c w hr => kPath6 A c w hr
  have CD := fun A c w hr => kDist6 A c w hr
  rw [hR] at CP CD
  clear hR
  go_enter Try.func7, Try.ntmps7
  go_wp2_with fail
  go_loopw [2] (fun v wr => ∃ (s : Nat) (V : Value) (vs : List Value), s ≤ 64 ∧ v = .int .i64 s ∧ Hid (wr.heap[w.heap.size]? = some (.cells #[.int .i64 2, .int .i64 1, V] 30)) ∧ Hid (Bld wr (w.heap.size + 1) V (R.take s) vs) ∧ Hid (Below w.heap.size w wr)) (fun v _ => 64 - (intOf v).toNat)
  case atStart =>
    exact ⟨0, .slice none 0 0, [], Nat.zero_le _, rfl, heap_alloc_new w _, Bld.nil_ _ _, (Below.refl _ _).alloc (Nat.le_refl _) _⟩
  case round =>
    obtain ⟨s, V, vs, hs, rfl, hG, hB, hbr⟩ := hrel
    have hts : (R.take s).length = s := by rw [List.length_take]; have := hRl.out; omega
    obtain ⟨A', c', hV, _⟩ := hB.out.rd
    rw [hts] at hV
    subst hV
    have hGm : BxM wr w.heap.size 2 1 A' s c' := hG.out
    have hGs : w.heap.size + 1 ≤ wr.heap.size := heap_lt hGm
    obtain ⟨g0, g1, g2⟩ := hGm.cells
    obtain ⟨_, _, f2⟩ := hGm.frozen
    by_cases hsl : s < 64
    · have hsl' : (s : Int) < 64 := by omega
      obtain ⟨X, hX, hX2⟩ : ∃ X, (IntKind.i64.wrap ((s : Int) + 63)).tmod 64 = X ∧ ((s : Int) + 63) % 64 = X := ⟨_, rfl, by rw [IntWalk.i64_in _ (by omega), Int.tmod_eq_emod_of_nonneg (by omega)]⟩
      have hrow : Hid (Mc.rk6 s = [(X, 0), ((s : Int), 0)]) := by show _ = _; unfold Mc.rk6; rw [hX2]
      have HVL : Hid (vs.length = s) := by have := hB.out.1.1; have h2 := hts; show _ = _; omega
      clear hX2
      have HX := Lib.hid hX
      have K1 := fun w' => edge_any ((IntKind.i64.wrap ((s : Int) + 63)).tmod 64) 0 w'
      rw [hX] at K1
      have q0 : Below wr.heap.size wr wr.drew := (Below.refl _ _).drew
      have hs3 : s + 1 ≤ maxLen := by unfold maxLen; omega
      have hs4 : (s + 1) * 24 ≤ 140737488355328 := by omega
      go_upto_region 5 with fail
      go_region_law
        (first
          | (go_simp
             go_at_call 36
             (with_reducible refine (K1 _).mono ?_)
             rintro e w1 ⟨rfl, hb1⟩
             have q1 := below_next q0 hb1
             have hG1 := BxM.mvB hGm q1
             obtain ⟨_, _, y2⟩ := BxM.cells hG1
             dsimp only)
          | (go_simp
             go_at_call 36
             (with_reducible refine (edge_any (s : Int) 0 w1).mono ?_)
             rintro e w2 ⟨rfl, hb2⟩
             have q2 := below_next q1 hb2
             have hz2 := q2.size
             have hG2 := BxM.mvB hGm q2
             obtain ⟨_, _, y3⟩ := BxM.cells hG2
             obtain ⟨_, _, y4⟩ := BxM.cells (hG2.al (.cells #[.int .i64 X, .int .i64 0, .int .i64 s, .int .i64 0] 73))
             obtain ⟨_, _, y5⟩ := BxM.cells ((hG2.al (.cells #[.int .i64 X, .int .i64 0, .int .i64 s, .int .i64 0] 73)).al (.cells #[.slice (some ⟨w2.heap.size, 0, none⟩) 2 2] 57))
             have hBr := Lib.hid ((hB.out.below q2).below ((Below.refl _ _).alloc (Nat.le_refl _) (.cells #[.int .i64 X, .int .i64 0, .int .i64 s, .int .i64 0] 73)))
             have hownA := hBr.out.1.alloc (.cells #[.slice (some ⟨w2.heap.size, 0, none⟩) 2 2] 57)
             rw [hts] at hownA
             have S1 := Lib.hid (cell_one_new (w2.alloc (.cells #[.int .i64 X, .int .i64 0, .int .i64 s, .int .i64 0] 73)) (t := 57) (.slice (some ⟨w2.heap.size, 0, none⟩) 2 2))
             have S2 : Hid (∀ u ∈ ([.slice (some ⟨w2.heap.size, 0, none⟩) 2 2] : List Value), u.oneCell' = true) := fun u hu => by simp at hu; subst hu; rfl
             have S5 : w.heap.size + 1 ≤ ((w2.alloc (.cells #[.int .i64 X, .int .i64 0, .int .i64 s, .int .i64 0] 73)).alloc (.cells #[.slice (some ⟨w2.heap.size, 0, none⟩) 2 2] 57)).heap.size := by simp; omega
             simp only [World.size_alloc] at S1
             dsimp only)
          | (refine step_append_lies _ rfl (.tmp 21) (.tmp 29) 28 rfl (w.heap.size + 1) 57 r0 (.slice none 0 0) 1 24 Try.underlying28 hr0 hr1 hr2 hr3 rfl (by decide) (.slice A' s c') s vs (by simp [Act.eval]) hownA ⟨w2.heap.size + 1, 0, none⟩ 1 1 [.slice (some ⟨w2.heap.size, 0, none⟩) 2 2] (by simp [Act.eval]) rfl S1.out S2.out (by decide) hs3 hs4 S5 _ rfl ?_
             intro g c3 w3 hown1 hg1 hat1 hlt1
             have hne : some w.heap.size ≠ (Value.slice A' s c').ownBlock := fun e => by
               have := (hownA.lt _ e.symm).1
               omega
             have hG9 : BxM w3 w.heap.size 2 1 A' s c' := (hg1.block w.heap.size (by simp; omega) hne).trans ((hG2.al (.cells #[.int .i64 X, .int .i64 0, .int .i64 s, .int .i64 0] 73)).al (.cells #[.slice (some ⟨w2.heap.size, 0, none⟩) 2 2] 57))
             obtain ⟨_, _, y9⟩ := BxM.cells hG9
             obtain ⟨_, _, f9⟩ := BxM.frozen hG9)
          | fail)
      all_goals
        have hpush := hBr.out.push (row := [(X, 0), ((s : Int), 0)]) (g := w2.heap.size) (c := 2) (V1 := .slice (some ⟨g, 0, none⟩) (s + 1) c3) (w1 := w3) (o := .cells #[.slice (some ⟨w2.heap.size, 0, none⟩) 2 2] 57) (own_two w2 (w.heap.size + 1) (by omega) X 0 s 0) (by rw [hts]; exact hown1) hg1
        have hset := hpush.kept (grown_setCell w3 ⟨w.heap.size, 2, none⟩ (.slice (some ⟨g, 0, none⟩) (s + 1) c3)) (by show w.heap.size < _; omega)
        have hRs : R.take s ++ [[(X, 0), ((s : Int), 0)]] = R.take (s + 1) := by rw [List.take_add_one, hRat.out s hsl, hrow.out]; rfl
        rw [hRs] at hset
        have hset := Lib.hid hset
        have hG4 : Hid ((w3.setCell ⟨w.heap.size, 2, none⟩ (.slice (some ⟨g, 0, none⟩) (s + 1) c3)).heap[w.heap.size]? = some (.cells #[.int .i64 2, .int .i64 1, .slice (some ⟨g, 0, none⟩) (s + 1) c3] 30)) := by
          have : w3.heap[w.heap.size]? = _ := hG9
          show _ = _
          simp [World.setCell, Array.getElem?_modify, this]
        have hbF : Hid (Below w.heap.size w (w3.setCell ⟨w.heap.size, 2, none⟩ (.slice (some ⟨g, 0, none⟩) (s + 1) c3))) :=
          (((((below_next hbr.out q2).alloc (below_next hbr.out q2).size (.cells #[.int .i64 X, .int .i64 0, .int .i64 s, .int .i64 0] 73)).alloc (by simp; omega) (.cells #[.slice (some ⟨w2.heap.size, 0, none⟩) 2 2] 57)).grown hg1 (by simp; omega) (fun j hj => by have := (hownA.lt _ hj).1; omega)).setCell (p := ⟨w.heap.size, 2, none⟩) (Nat.le_refl w.heap.size) _)
        clear hown1 hg1 hpush hRs hne hG9 hownA S1 S2 S5 hG2 hG1 hBr
        go_wp2
        go_roundw
        case rel => exact ⟨s + 1, _, _, by omega, by go_num, hG4, hset, hbF⟩
        case measure => simp [intOf]; omega
    · obtain rfl : s = 64 := by omega
      have hrd : RdR wr A' R := by
        have h := Bld.two hB.out
        rwa [List.take_of_length_le (by have := hRl.out; omega)] at h
      have s1 := MK.putB (MK.putR (show MT w wr [] from ⟨trivial, hbr.out, fun p hp => by simp at hp⟩) hrd) hGm
      clear hG hB hbr hrd hGm hts hRat hRl hs
      obtain ⟨b0, b1, b2⟩ := BxM.cells (MK.get s1 0 rfl)
      go_wp2_with fail
      clear b0 b1 b2
      refine (CP A' c' _ (MK.get s1 1 rfl)).mono ?_
      rintro e w1 ⟨B1, rfl, hbl⟩
      have s2 := MT.next s1 hbl
      clear s1 hbl CP
      obtain ⟨b0, b1, b2⟩ := BxM.cells (MK.get s2 0 rfl)
      go_wp2_with fail
      clear b0 b1 b2
      refine (CD A' c' _ (MK.get s2 1 rfl)).mono ?_
      rintro e w2 ⟨gb, go, rfl, c9, c10, c11, hbl⟩
      have s3 := (MT.next s2 hbl).2.1
      have hb3 := Lib.hid s3
      clear s2 hbl CD s3
      go_wp2
      clear c9 c10 c11
      obtain ⟨j0, hj0, hy0, hy1, hy2⟩ := info_parts u16_info
      obtain ⟨k0, hk0, hv0, hv1, hv2⟩ := info_parts u8_info
      go_loopw [8, 9] (fun kv nv wr => ∃ (k : Int) (n : Nat), n ≤ 60 ∧ nv = .int .i64 n ∧ kv = .int .i64 k ∧ 0 ≤ k ∧ k < 100003 ∧ Hid (Below w2.heap.size w2 wr)) (fun _ nv _ => 60 - (intOf nv).toNat)
      case atStart => exact ⟨1, 0, by omega, rfl, rfl, by omega, by omega, Below.refl _ _⟩
      case round =>
        obtain ⟨k, n, hn, rfl, rfl, hk0', hk1', hbr⟩ := hrel
        by_cases hn60 : n < 60
        · have hlt' : decide ((n : Int) < 60) = true := by simp; omega
          have hlt2 : (n : Int) < 60 := by omega
          go_wp2_with fail
          obtain ⟨wo, rfl⟩ : ∃ wo : World, wo = wr := ⟨_, rfl⟩
          go_loopw [8, 10, 11, 12] (fun kv lv tv iv wr => ∃ (k : Int) (j : Nat) (zs ts : List Int), j ≤ 18 ∧ iv = .int .i64 j ∧ kv = .int .i64 k ∧ 0 ≤ k ∧ k < 100003 ∧ Hid (wr.ownsRow wo.heap.size 75 1 lv j (u16s zs)) ∧ Hid (∀ z ∈ zs, 0 ≤ z ∧ z ≤ 65535) ∧ Hid (wr.ownsRow wo.heap.size 5 1 tv j (u8s ts)) ∧ Hid (∀ z ∈ ts, 0 ≤ z ∧ z ≤ 255) ∧ Hid (Below wo.heap.size wo wr)) (fun _ _ _ iv _ => 18 - (intOf iv).toNat)
          case atStart => exact ⟨k, 0, [], [], by omega, rfl, rfl, hk0', hk1', World.ownsRow_nil _ _ _ _, (fun z h => by simp at h), World.ownsRow_nil _ _ _ _, (fun z h => by simp at h), Below.refl _ _⟩
          case round =>
            obtain ⟨q, j, zs, ts, hj, rfl, rfl, hq0, hq1, hown0, hzs, howt0, hts, hbr2⟩ := hrel
            by_cases hjl : j < 18
            · have hjl' : decide ((j : Int) < 18) = true := by simp; omega
              obtain ⟨r, hr, hr0, hr1⟩ : ∃ r, (q * 31 + 7 * (j : Int) + 11) % 100003 = r ∧ 0 ≤ r ∧ r < 100003 := ⟨_, rfl, by omega, by omega⟩
              obtain ⟨z, hz, hz01⟩ : ∃ z, IntKind.u16.wrap r = z ∧ Hid (0 ≤ z ∧ z ≤ 65535) := ⟨_, rfl, u16_bd r⟩
              obtain ⟨t, ht, ht01⟩ : ∃ t, r / 7 % 256 = t ∧ Hid (0 ≤ t ∧ t ≤ 255) := ⟨_, rfl, by show _ ∧ _; omega⟩
              have hsz := hbr2.out.size
              have h1 := Lib.hid (cell_one_new wr (t := 75) (.int .u16 z))
              have h2 : Hid (∀ u ∈ ([.int .u16 z] : List Value), u.oneCell' = true) := fun u hu => by simp at hu; subst hu; rfl
              have h3 : j + 1 ≤ maxLen := by unfold maxLen; omega
              have h4 : (j + 1) * 2 ≤ 140737488355328 := by omega
              have h4' : (j + 1) * 1 ≤ 140737488355328 := by omega
              have h5 : wo.heap.size ≤ (wr.alloc (.cells #[.int .u16 z] 75)).heap.size := by simp; omega
              have hownA := hown0.out.alloc (.cells #[.int .u16 z] 75)
              have howtA := Lib.hid (howt0.out.alloc (.cells #[.int .u16 z] 75))
              have hap := own_apart howtA.out hownA (show (5 : TypeId) ≠ 75 by decide)
              go_wp2_with (at_builtin; refine wpList_append_own _ rfl _ _ 22 rfl wo.heap.size 75 j0 (.int .u16 0) 1 2 Try.underlying22 hj0 hy0 hy1 hy2 rfl (by decide) _ _ _ rfl hownA ⟨wr.heap.size, 0, none⟩ 1 1 [.int .u16 z] rfl rfl h1.out h2.out h3 h4 h5 ?_)
              intro v1 w5 hown1 hg1 _
              have hbr3 : Below wo.heap.size wo w5 := (hbr2.out.alloc hsz _).grown hg1 h5 (fun j hj => (hownA.lt j hj).1)
              have howt1 := Lib.hid (howtA.out.kept hg1 hap)
              rw [u16s_snoc] at hown1
              have hown3 := Lib.hid hown1
              have hzs2 : Hid (∀ y ∈ zs ++ [z], 0 ≤ y ∧ y ≤ 65535) := fun y hy => by
                rcases List.mem_append.1 hy with h | h
                · exact hzs.out y h
                · simp at h; subst h; exact hz01.out
              have hts2 : Hid (∀ y ∈ ts ++ [t], 0 ≤ y ∧ y ≤ 255) := fun y hy => by
                rcases List.mem_append.1 hy with h | h
                · exact hts.out y h
                · simp at h; subst h; exact ht01.out
              have hHB := Lib.hid hbr3
              clear hown1 hg1 hownA h1 h2 h4 h5 hown0 hz howt0 howtA hap hbr2 hsz hbr3
              have hsz := hHB.out.size
              have e1 := Lib.hid (cell_one_new w5 (t := 5) (.int .u8 t))
              have e2 : Hid (∀ u ∈ ([.int .u8 t] : List Value), u.oneCell' = true) := fun u hu => by simp at hu; subst hu; rfl
              have e5 : wo.heap.size ≤ (w5.alloc (.cells #[.int .u8 t] 5)).heap.size := by simp; omega
              have howtB := howt1.out.alloc (.cells #[.int .u8 t] 5)
              have hownB := Lib.hid (hown3.out.alloc (.cells #[.int .u8 t] 5))
              have hap := own_apart hownB.out howtB (show (75 : TypeId) ≠ 5 by decide)
              go_wp2_with (at_builtin; refine wpList_append_own _ rfl _ _ 25 rfl wo.heap.size 5 k0 (.int .u8 0) 1 1 Try.underlying25 hk0 hv0 hv1 hv2 rfl (by decide) _ _ _ rfl howtB ⟨w5.heap.size, 0, none⟩ 1 1 [.int .u8 t] rfl rfl e1.out e2.out h3 h4' e5 ?_)
              intro v2 w6 howt2 hg2 _
              have hbr4 := Lib.hid ((hHB.out.alloc hsz (.cells #[.int .u8 t] 5)).grown hg2 e5 (fun j hj => (howtB.lt j hj).1))
              have hown4 := Lib.hid (hownB.out.kept hg2 hap)
              rw [u8s_snoc] at howt2
              have howt4 := Lib.hid howt2
              clear howt2 hg2 howtB hownB hown3 howt1 e1 e2 e5 hHB hsz hap ht h3 h4'
              go_wp2
              go_roundw
              case rel => exact ⟨r, j + 1, _, _, by omega, by go_num, rfl, hr0, hr1, hown4, hzs2, howt4, hts2, hbr4⟩
              case measure => simp [intOf]; omega
            · have hjl' : decide ((j : Int) < 18) = false := by simp; omega
              obtain rfl : j = 18 := by omega
              obtain ⟨Ls, cl, rfl, hcl⟩ := own_slice hown0.out
              obtain ⟨Ts, ct, rfl, hct⟩ := own_slice howt0.out
              have HZL : Hid (zs.length = 18) := by have := hown0.out.1; rw [u16s_len] at this; exact this
              have HTL : Hid (ts.length = 18) := by have := howt0.out.1; rw [u8s_len] at this; exact this
              have hbW := below_next hbr.out hbr2.out
              have s5 := MT.putK (P := fun w => Rd8 w Ts ts) (MT.putK (P := fun w => Rd16 w Ls zs) (show MT w2 wr [] from ⟨trivial, hbW, fun p hp => by simp at hp⟩) (Rd16.of_own hown0.out hzs.out) (fun _ _ h hb => h.below hb)) (Rd8.of_own howt0.out hts.out) (fun _ _ h hb => h.below hb)
              clear hown0 howt0 hjl hjl' hbr hbr2 hbW
              obtain ⟨n3, hn3, m3⟩ : ∃ m, (n : Int) / 3 = m ∧ Hid (0 ≤ m ∧ m ≤ 255) := ⟨_, rfl, by show _ ∧ _; omega⟩
              obtain ⟨n2, hn2, m2⟩ : ∃ m, (n : Int) / 2 = m ∧ Hid (0 ≤ m ∧ m ≤ 255) := ⟨_, rfl, by show _ ∧ _; omega⟩
              obtain ⟨pb, hpb⟩ : ∃ b, ((n : Int) % 2 == 0) = b := ⟨_, rfl⟩
              obtain ⟨k8, hk8, m8⟩ : ∃ m, q % 256 = m ∧ Hid (0 ≤ m ∧ m ≤ 255) := ⟨_, rfl, by show _ ∧ _; omega⟩
              obtain ⟨k7, hk7, m7⟩ : ∃ m, q / 7 % 256 = m ∧ Hid (0 ≤ m ∧ m ≤ 255) := ⟨_, rfl, by show _ ∧ _; omega⟩
              have mn : Hid (0 ≤ (n : Int) ∧ (n : Int) ≤ 255) := by show _ ∧ _; omega
              have s6 := MT.putK (P := fun w => w.heap[wr.heap.size]? = some (.cells #[.int .u8 n, .int .u8 n3, .int .u8 n2, .bool pb, .slice Ls 18 cl] 24)) (MT.alloc s5 (.cells #[.int .u8 n, .int .u8 n3, .int .u8 n2, .bool pb, .slice Ls 18 cl] 24)) (heap_alloc_new wr _) (fun _ _ h hb => (hb.block _ (heap_lt h)).trans h)
              have s7 := MT.putK (P := fun w => Rd8 w (some ⟨wr.heap.size + 1, 0, none⟩) [k8, n, 1, 2, k7]) (MT.alloc s6 (.cells #[.int .u8 k8, .int .u8 n, .int .u8 1, .int .u8 2, .int .u8 k7] 5)) (by
                have h := rd8_lit (wr.alloc (.cells #[.int .u8 n, .int .u8 n3, .int .u8 n2, .bool pb, .slice Ls 18 cl] 24)) [k8, n, 1, 2, k7] (fun z hz => by
                  have := m8.out; have := m7.out; have := mn.out
                  simp at hz
                  rcases hz with rfl | rfl | rfl | rfl | rfl <;> omega)
                rw [World.size_alloc] at h
                exact h) (fun _ _ h hb => h.below hb)
              have s8 := MT.putK (P := fun w => w.heap[wr.heap.size + 1 + 1]? = some (.cells #[.slice (some ⟨wr.heap.size + 1, 0, none⟩) 5 5] 27)) (MT.alloc s7 (.cells #[.slice (some ⟨wr.heap.size + 1, 0, none⟩) 5 5] 27)) (by
                have h := heap_alloc_new ((wr.alloc (.cells #[.int .u8 n, .int .u8 n3, .int .u8 n2, .bool pb, .slice Ls 18 cl] 24)).alloc (.cells #[.int .u8 k8, .int .u8 n, .int .u8 1, .int .u8 2, .int .u8 k7] 5)) (.cells #[.slice (some ⟨wr.heap.size + 1, 0, none⟩) 5 5] 27)
                rw [World.size_alloc, World.size_alloc] at h
                exact h) (fun _ _ h hb => (hb.block _ (heap_lt h)).trans h)
              clear s5 s6 s7
              go_upto_region 24 with fail
              obtain ⟨W, hW⟩ : ∃ W, ((wr.alloc (.cells #[.int .u8 n, .int .u8 n3, .int .u8 n2, .bool pb, .slice Ls 18 cl] 24)).alloc (.cells #[.int .u8 k8, .int .u8 n, .int .u8 1, .int .u8 2, .int .u8 k7] 5)).alloc (.cells #[.slice (some ⟨wr.heap.size + 1, 0, none⟩) 5 5] 27) = W := ⟨_, rfl⟩
              rw [hW] at s8 ⊢
              clear hW
              obtain ⟨G, hG⟩ : ∃ G, wr.heap.size = G := ⟨_, rfl⟩
              obtain ⟨H, hH⟩ : ∃ H, G + 1 + 1 = H := ⟨_, rfl⟩
              obtain ⟨Y, hY⟩ : ∃ Y, G + 1 = Y := ⟨_, rfl⟩
              rw [hG] at s8 ⊢
              rw [hH, hY] at s8 ⊢
              clear hG hH hY
              have HKM : Hid (∀ (V : World) (P0 P1 : World → Prop) (L : List (World → Prop)), MT w2 V (P0 :: P1 :: (fun w => w.heap[G]? = some (.cells #[.int .u8 n, .int .u8 n3, .int .u8 n2, .bool pb, .slice Ls 18 cl] 24)) :: L) → (V.cell? ⟨G, 0, none⟩ = some (.int .u8 n) ∧ V.cell? ⟨G, 1, none⟩ = some (.int .u8 n3) ∧ V.cell? ⟨G, 2, none⟩ = some (.int .u8 n2) ∧ V.cell? ⟨G, 3, none⟩ = some (.bool pb) ∧ V.cell? ⟨G, 4, none⟩ = some (.slice Ls 18 cl))) := fun V P0 P1 L h => by
                have h1 := MK.get h 2 rfl
                refine ⟨?_, ?_, ?_, ?_, ?_⟩ <;> (rw [cell_of_row _ _ _ _ _ _ h1]; rfl)
              have HKW : Hid (∀ (V : World) (L : List (World → Prop)), MT w2 V ((fun w => w.heap[H]? = some (.cells #[.slice (some ⟨Y, 0, none⟩) 5 5] 27)) :: L) → V.cell? ⟨H, 0, none⟩ = some (.slice (some ⟨Y, 0, none⟩) 5 5)) := fun V L h => by
                have h1 := MK.get h 0 rfl
                rw [cell_of_row _ _ _ _ _ _ h1]; rfl
              have hw1 : IntKind.u8.wrap (n : Int) = n := IntWalk.u8_in _ (by omega)
              have hw2 : IntKind.u8.wrap q = k8 := by rw [IntKind.wrap_u8]; exact hk8
              have hw3 : (n : Int).tdiv 3 = n3 := by rw [Int.tdiv_eq_ediv_of_nonneg (by omega)]; exact hn3
              have hw4 : (n : Int).tdiv 2 = n2 := by rw [Int.tdiv_eq_ediv_of_nonneg (by omega)]; exact hn2
              have hw5 : IntKind.u8.wrap n3 = n3 := IntWalk.u8_in _ m3.out
              have hw6 : IntKind.u8.wrap n2 = n2 := IntWalk.u8_in _ m2.out
              have C1 := fun w hr => kAccess n n3 n2 pb Ls 18 cl zs w hr HZL.out (by decide) mn.out m3.out m2.out
              have C2 := fun w hr => kPath n n3 n2 pb Ls 18 cl zs w hr HZL.out (by decide) mn.out m3.out m2.out n k8 mn.out m8.out
              have C3 := fun w hr hw => kTrim n n3 n2 pb Ls 18 cl zs w hr HZL.out (by decide) mn.out m3.out m2.out (some ⟨Y, 0, none⟩) 5 5 [k8, n, 1, 2, k7] hw rfl (by decide)
              have C4 := fun w hr hw ht => kCanon n n3 n2 pb Ls 18 cl zs w hr HZL.out (by decide) mn.out m3.out m2.out (some ⟨Y, 0, none⟩) 5 5 [k8, n, 1, 2, k7] hw rfl (by decide) Ts 18 ct ts ht HTL.out
              have C5 := fun w hr => kIso n n3 n2 pb Ls 18 cl zs w hr HZL.out (by decide) mn.out m3.out m2.out n k8 mn.out m8.out
              have C6 := fun w hr ht => kC n n3 n2 Ls 18 cl zs w hr HZL.out mn.out m3.out m2.out Ts 18 ct ts ht HTL.out (by decide)
              obtain ⟨x0, x1, x2, x3, x4⟩ := HKM.out _ _ _ _ s8
              go_wp2_with fail
              refine (C1 _ (MK.get s8 4 rfl)).mono ?_
              rintro e v1 ⟨rfl, hbl⟩
              have t1 := MT.next s8 hbl
              clear s8 hbl x0 x1 x2 x3 x4 C1
              obtain ⟨x0, x1, x2, x3, x4⟩ := HKM.out _ _ _ _ t1
              go_wp2_with fail
              refine (C2 _ (MK.get t1 4 rfl)).mono ?_
              rintro e v2 ⟨rfl, hbl⟩
              have t2 := MT.next t1 hbl
              clear t1 hbl x0 x1 x2 x3 x4 C2
              obtain ⟨x0, x1, x2, x3, x4⟩ := HKM.out _ _ _ _ t2
              have y0 := HKW.out _ _ t2
              go_wp2_with fail
              refine (C3 _ (MK.get t2 4 rfl) (MK.get t2 1 rfl)).mono ?_
              rintro e v3 ⟨rfl, hbl⟩
              have t3 := MT.next t2 hbl
              clear t2 hbl x0 x1 x2 x3 x4 y0 C3
              obtain ⟨x0, x1, x2, x3, x4⟩ := HKM.out _ _ _ _ t3
              have y0 := HKW.out _ _ t3
              go_wp2_with fail
              refine (C4 _ (MK.get t3 4 rfl) (MK.get t3 1 rfl) (MK.get t3 3 rfl)).mono ?_
              rintro e v4 ⟨rfl, hbl⟩
              have t4 := MT.next t3 hbl
              clear t3 hbl x0 x1 x2 x3 x4 y0 C4
              obtain ⟨x0, x1, x2, x3, x4⟩ := HKM.out _ _ _ _ t4
              go_wp2_with fail
              refine (C5 _ (MK.get t4 4 rfl)).mono ?_
              rintro e v5 ⟨rfl, hbl⟩
              have t5 := MT.next t4 hbl
              clear t4 hbl x0 x1 x2 x3 x4 C5
              obtain ⟨x0, x1, x2, x3, x4⟩ := HKM.out _ _ _ _ t5
              go_wp2_with fail
              refine (C6 _ (MK.get t5 4 rfl) (MK.get t5 3 rfl)).mono ?_
              rintro e v6 ⟨rfl, hbl⟩
              have t6 := Lib.hid (MT.next t5 hbl).2.1
              clear t5 hbl x0 x1 x2 x3 x4 C6
              go_wp2
              go_roundw
              case rel => exact ⟨q, n + 1, by omega, by go_num, rfl, hq0, hq1, t6⟩
              case measure => simp [intOf]; omega
        · have hlt' : decide ((n : Int) < 60) = false := by simp; omega
          have hbF := below_next hb3.out hbr.out
          go_wp2_with fail
          refine (lives_walk wr).mono ?_
          rintro e wz ⟨rfl, hb⟩
          go_wp2
          go_ret
          exact ⟨rfl, below_next hbF hb⟩
end Go.Proofs.Ythemaombpddbbaa
