/-
  The iterator over the words and the nodes of a trie. No statement is proved here.
-/
import Derived.Test.YtjodhihcckcefaaTRg
import Derived.Stop.RegionWithIn
import Derived.Laws.Concat
namespace Go.Proofs.Ytjodhihcckcefaa
open Go.RowKit Go.Maps

/-- The words that lead to the nodes. -/
structure Keyz (ns : List Nd) (K : List (List Int)) : Prop where
  len : K.length = ns.length
  root : ∀ x, K[0]? = some x → x = []
  kid : ∀ (k i j : Nat) (x : Nd), ns[k]? = some x → x.1[i]? = some (j : Int) → ∃ y, K[k]? = some y ∧ K[j]? = some (y ++ [(i : Int)])
  by_ : ∀ x ∈ K, M.By x
  sh : ∀ x ∈ K, x.length ≤ 65537
theorem kadd {a b : List Int} (h : a.length + b.length ≤ 1000000) (w : World) : (binOp .add 9 (keyV a) (keyV b)).run Try.prog w = .ok (keyV (a ++ b)) w := by
  have hs : ∀ x : List Int, (⟨(M.kU x).toArray⟩ : ByteArray).size = x.length := fun x => by rw [← M.kU_len x]; simp [ByteArray.size]
  unfold keyV
  rw [binOp_string_add]
  refine (run_string_add_sum (P := Try.prog) (w := w) ⟨(M.kU a).toArray⟩ ⟨(M.kU b).toArray⟩ (by rw [hs, hs]; omega)).trans ?_
  congr 2
  apply ByteArray.ext
  simp [M.kU]
theorem str_infoU : (Try.prog.info? 9).map (fun i => (i.zero, i.size, i.bytes)) = some (some (.string ⟨#[]⟩), 1, 16) := by kernel_rfl
/-- A block of keys. -/
def BlkS (w : World) (g : Nat) (fs : List (List Int)) : Prop := w.heap[g]? = some (.cells (fs.map keyV).toArray 9 (0, 0))
section
variable {w w' : World} {g : Nat} {fs : List (List Int)}
theorem BlkS.at_ (h : BlkS w g fs) {k : Nat} {x : List Int} (hk : fs[k]? = some x) : w.cell? ⟨g, k, none⟩ = some (keyV x) ∧ w.frozen? ⟨g, k, none⟩ = false := by
  constructor
  · rw [cell_of_row w g k _ 9 (0, 0) h]
    simp [hk]
  · unfold BlkS at h
    simp [World.frozen?, h]
theorem BlkS.set_ (h : BlkS w g fs) (k : Nat) (x : List Int) : BlkS (w.setCell ⟨g, k, none⟩ (keyV x)) g (fs.set k x) := by
  unfold BlkS at h ⊢
  simp [World.setCell, Array.getElem?_modify, h, List.map_set]
theorem BlkS.below (h : BlkS w g fs) (hb : Below w.heap.size w w') : BlkS w' g fs := (hb.block g (hlt h)).trans h
end
/-- What is known of the words when m nodes have been met. -/
def kst (K : List (List Int)) (m : Nat) : List (List Int) := K.take m ++ List.replicate (K.length - m) []
theorem kst_one {K : List (List Int)} (h : ∀ x, K[0]? = some x → x = []) : kst K 1 = List.replicate K.length [] := by
  cases K with
  | nil => rfl
  | cons a K =>
    obtain rfl := h a rfl
    unfold kst
    simp [List.replicate_succ]
theorem kst_at {K : List (List Int)} {m k : Nat} {x : List Int} (hk : K[k]? = some x) (hm : k < m) : (kst K m)[k]? = some x := by
  unfold kst
  have := (List.getElem?_eq_some_iff.1 hk).1
  rw [List.getElem?_append_left (by simp; omega), List.getElem?_take, if_pos hm]
  exact hk
theorem kst_len (K : List (List Int)) {m : Nat} (hm : m ≤ K.length) : (kst K m).length = K.length := by unfold kst; simp; omega
theorem kst_set {K : List (List Int)} {m : Nat} {x : List Int} (hk : K[m]? = some x) : (kst K m).set m x = kst K (m + 1) := by
  have hl := (List.getElem?_eq_some_iff.1 hk).1
  unfold kst
  have h1 : (K.take m).length = m := by simp; omega
  rw [List.set_append_right _ _ (by omega), h1, Nat.sub_self, show K.length - m = (K.length - (m + 1)) + 1 by omega, List.replicate_succ, List.set_cons_zero, List.take_add_one, hk]
  simp
set_option maxRecDepth 100000 in
theorem twalk_any (I : Int) (A : Option Addr) (n c : Nat) (w : World) :
    Calls Try.prog 74 #[.agg #[.int .i64 I, .slice A n c]] w fun e w' => e = .returned (.func (.func 89) #[] #[.pointer (some ⟨w.heap.size, 0, none⟩)]) ∧ w' = w.alloc (.cells #[.int .i64 I, .slice A n c] 56) := by
  go_enter Try.func74, Try.ntmps74
  go_wp2
  go_ret
  exact ⟨rfl, rfl⟩
theorem KCo.cell {D : Nat → Obj → Prop} {W W' : World} (h : KCo D W W') {b o : Nat} {v : Value} (hp : ∀ x, ¬ D b x) (hc : W.cell? ⟨b, o, none⟩ = some v) : W'.cell? ⟨b, o, none⟩ = some v := by
  obtain ⟨x, hx, hcx⟩ := cell_block hc
  exact (World.cell?_of_block (w := W) (a := ⟨b, o, none⟩) ((h.2 b x (hp x) hx hcx).trans hx.symm)).trans hc
theorem KCo.kit {D : Nat → Obj → Prop} {W wr w1 : World} (h : KCo D W wr) (k : KIT W.heap.size wr w1) : KCo D W w1 := ⟨Nat.le_trans h.1 k.ch.size, fun b o hb ho hc => (k.ch.low b (hlt ho)).trans (h.2 b o hb ho hc)⟩
set_option maxRecDepth 100000 in
set_option maxHeartbeats 4000000 in
theorem twalk_gives (mm : Nat) (D : Nat → Obj → Prop) (w0 w : World) (gt N c : Nat) (I : Int) (A : Option Addr) (ns : List Nd) (K : List (List Int)) (hb : Below w0.heap.size w0 w) (hr : RdN w0 A ns) (hN : ns.length = N) (hN2 : N ≤ 65537) (hI : I ≤ 16)
    (hf : N = 0 ∨ fmr I 0 ns 1 = some (N : Int)) (hK : Keyz ns K) (hbx : Bx2 w gt 56 (.int .i64 I) (.slice A N c)) (hD0 : ∀ b o, D b o → w0.heap.size ≤ b) (hD1 : ∀ b o, D b o → b < w.heap.size ∨ ∃ cs fr, o = .cells cs 23 fr) (hD2 : ∀ o, ¬ D gt o) :
    GivesT mm 89 #[.pointer (some ⟨gt, 0, none⟩)] (K.zip ns) D w := by
  intro l J Jx W hW hJ hJx hY hJ0
  have hgl := hbx.lt
  have hbW : Below w0.heap.size w0 W := below_next hb hW
  have MV : Hid (∀ (wr : World), KCo D W wr → ∀ b o v, b < w0.heap.size → w0.cell? ⟨b, o, none⟩ = some v → wr.cell? ⟨b, o, none⟩ = some v) := fun wr hk b o v hb hc =>
    hk.cell (fun x hx => by have := hD0 b x hx; omega) ((hbW.cell (p := ⟨b, o, none⟩) hb).trans hc)
  have HR := Lib.hid hr
  have MM : Hid (∀ (wr : World), KCo D W wr → wr.cell? ⟨gt, 0, none⟩ = some (.int .i64 I) ∧ wr.cell? ⟨gt, 1, none⟩ = some (.slice A N c)) := fun wr hk =>
    ⟨hk.cell hD2 ((hW.cell (p := ⟨gt, 0, none⟩) hgl).trans hbx.cells.1), hk.cell hD2 ((hW.cell (p := ⟨gt, 1, none⟩) hgl).trans hbx.cells.2.1)⟩
  have hDF : Hid (∀ b cs t fr, W.heap.size ≤ b → t ≠ 23 → ¬ D b (.cells cs t fr)) := fun b cs t fr h1 h2 h3 => by
    rcases hD1 b _ h3 with h4 | ⟨cs', fr', h4⟩
    · have := hW.size; omega
    · injection h4 with _ h4 _
      exact h2 h4
  obtain ⟨x0, x1⟩ := MM.out W (KCo.of_below (Below.refl _ _))
  have hmk := run_make_row' (P := Try.prog) 86 9 (.string ⟨#[]⟩) 16 Try.underlying86 str_infoU rfl .i64 .i64 N (by omega) (by omega) W
  obtain ⟨F, hF⟩ : ∃ F, W.heap.size = F := ⟨_, rfl⟩
  obtain ⟨W1, hW1⟩ : ∃ W1, W.alloc (.cells (madeCells #[.string ⟨#[]⟩] N) 9) = W1 := ⟨_, rfl⟩
  have hS1 : BlkS W1 F (kst K 1) := by
    rw [kst_one hK.root, hK.len, hN, ← hW1, ← hF]
    unfold BlkS
    rw [heap_alloc_new]
    have e := toList_madeCells_one (.string ⟨#[]⟩) N
    have e2 : madeCells #[.string ⟨#[]⟩] N = ((List.replicate N ([] : List Int)).map keyV).toArray := by
      rw [← Array.toList_inj, e]
      simp [keyV, M.kU]
    rw [e2]
  have hb1 : Below W.heap.size W W1 := by rw [← hW1]; exact (Below.refl _ _).alloc (Nat.le_refl _) _
  have hJ1 := hJ _ _ _ hJ0 (KIT.of_below hb1 (Nat.le_refl _))
  have JJ := Lib.hid hJ
  have YY := Lib.hid hY
  have HK := Lib.hid hK
  have HN := Lib.hid hN
  have HF : Hid (N = 0 ∨ fmr I 0 (ns.drop 0) (1 : Nat) = some (N : Int)) := hf
  have HC1 := Lib.hid (KCo.of_below (D := D) hb1)
  have HS1 := Lib.hid hS1
  have HJ1 := Lib.hid hJ1
  have HFW := Lib.hid hF
  obtain ⟨y0, y1⟩ := MM.out W1 HC1.out
  rw [hW1] at hmk
  rw [hF] at hmk
  clear hJ hJx hY hJ0 hK hN hf hJ1 hS1 hb1 hr hbx hb hW hbW hD0 hD1 hD2 hgl hF
  refine callsIn_of_wp Try.func89 rfl trivial ?_ rfl
  simp only [Try.ntmps89, List.size_toArray, List.length_cons, List.length_nil, Nat.reduceAdd, Nat.reduceSub, Array.replicate_succ, Array.replicate_zero, List.push_toArray, List.append_toArray, List.nil_append, List.cons_append]
  gi_wp2_with fail
  clear x0 x1 y0 y1 hmk hW1
  gi_loopw [15] (fun v wr => ∃ (k m : Nat), k ≤ N ∧ v = .int .i64 k ∧ 1 ≤ m ∧ Hid (N = 0 ∨ fmr I k (ns.drop k) (m : Int) = some (N : Int)) ∧ Hid (J k wr) ∧ Hid (KCo D W wr) ∧ Hid (BlkS wr F (kst K m))) (fun v _ => N - (intOf v).toNat)
  case atStart => exact ⟨0, 1, Nat.zero_le _, rfl, Nat.le_refl _, HF.out, HJ1.out, HC1.out, HS1.out⟩
  case round =>
    clear HF HJ1 HC1 HS1
    obtain ⟨k, m, hk, rfl, hm1, hf, hj, hc, hs⟩ := hrel
    by_cases hlt' : k < N
    · obtain ⟨x, hx⟩ : ∃ x, ns[k]? = some x := ⟨_, List.getElem?_eq_getElem (by rw [HN.out]; exact hlt')⟩
      have hf2 : fmr I k (ns.drop k) (m : Int) = some (N : Int) := hf.out.resolve_left (by omega)
      rw [drop_at hx] at hf2
      have hnb : ¬ ((m : Int) ≤ (k : Int) ∨ (x.1.length : Int) ≠ I ∨ (nxB x.1 = false ∧ x.2 = false)) := fun h => by rw [fmr_bad h] at hf2; cases hf2
      rw [fmr_ok hnb] at hf2
      have hkm : k < m := by
        rcases Nat.lt_or_ge k m with h | h
        · exact h
        · exact absurd (Or.inl (by omega)) hnb
      have hmN : m ≤ N := by have := chk2_le hf2; omega
      obtain ⟨y, hy⟩ : ∃ y, K[k]? = some y := ⟨_, List.getElem?_eq_getElem (by rw [HK.out.len, HN.out]; exact hlt')⟩
      obtain ⟨f0, _⟩ := hs.out.at_ (kst_at hy hkm)
      obtain ⟨b, off, B, cc, q, rfl, hbl, hc0', hc1', hrd, hq⟩ := HR.out.at_ hx
      have hc0 := MV.out wr hc.out b _ _ hbl hc0'
      have hc1 := MV.out wr hc.out b _ _ hbl hc1'
      clear hc0' hc1'
      have hqI : (q : Int) = I := by
        rcases Classical.em ((x.1.length : Int) = I) with h | h
        · rw [hq.out] at h; exact h
        · exact absurd (Or.inr (Or.inl h)) hnb
      obtain ⟨xs, xe⟩ := x
      simp only at hc1 hrd hq hf2
      have hzip : (K.zip ns)[k]? = some (y, (xs, xe)) := by
        rw [List.getElem?_zip_eq_some]
        exact ⟨hy, hx⟩
      obtain ⟨X, hX⟩ : ∃ X, wr.alloc (.cells #[.slice B q cc, .bool xe] 64) = X := ⟨_, rfl⟩
      have bX : Below wr.heap.size wr X := by rw [← hX]; exact (Below.refl _ _).alloc (Nat.le_refl _) _
      have xX : Bx2 X wr.heap.size 64 (.slice B q cc) (.bool xe) := by rw [← hX]; exact Bx2.new _ _ _ _
      have hWr := hc.out.1
      have HKX : KIT W.heap.size wr X := KIT.of_below bX hWr
      have HCX := Lib.hid (hc.out.kit HKX)
      have HJX := JJ.out _ _ _ hj.out HKX
      have HSX := Lib.hid (hs.out.below bX)
      have HXX := Lib.hid xX
      obtain ⟨u0, u1, _, _⟩ := xX.cells
      have f1 := (bcell bX).1 F k (hlt hs.out) |>.trans f0
      have HY := Lib.hid (YY.out k (y, (xs, xe)) B q cc X.drew hzip (JJ.out _ _ _ HJX (KIT.of_below (Below.refl _ _).drew (Nat.le_trans hWr bX.size))))
      have H2 := Lib.hid (And.intro hf2 (And.intro hy (And.intro hrd hx)))
      have hXN := hX
      clear hX hx hrd hzip hf2 hy hnb hbl HKX HJX xX bX hf hj hs hc
      obtain ⟨fn, tmps, assign, body, hyl, hR⟩ := HY.out
      simp only [wtv] at hyl
      have hR2 := hR.mono (R' := fun e W' => ∃ r : Bool, e = .returned (.bool r) ∧ Hid ((r = true → J (k + 1) W' ∧ KCo D X.drew W') ∧ (r = false → Jx W'))) (by
        rintro e W' (⟨rfl, h1, h2⟩ | ⟨rfl, h1⟩)
        · exact ⟨true, rfl, And.intro (fun _ => ⟨h1, h2⟩) (fun h => absurd h (by decide))⟩
        · exact ⟨false, rfl, And.intro (fun h => absurd h (by decide)) (fun _ => h1)⟩)
      clear hR HY
      gi_wp2_with fail
      gi_region_with (first
        | (refine ⟨(fun h => by simp [Fence.wide] at h), hR2.mono ?_⟩
           rintro e W3 ⟨r, rfl, HP⟩)
        | fail)
      all_goals
        cases r with
        | false =>
          gi_wp2
          refine bodyPost_ret (results_none rfl _ _ _) rfl ?_
          exact ⟨by first | trivial | exact ⟨_, rfl⟩, .inr (HP.out.2 (by simp))⟩
        | true =>
          obtain ⟨hJ3, hk3⟩ := HP.out.1 rfl
          have hkX : KCo D X W3 := (KCo.of_below (Below.refl _ _).drew).trans hk3
          have HC3 := Lib.hid (HCX.out.trans hkX)
          have HS3 : Hid (BlkS W3 F (kst K m)) := hkX.2 F _ (hDF.out F _ _ _ (by rw [HFW.out]; exact Nat.le_refl _) (by decide)) HSX.out rfl
          have hX3 : Bx2 W3 wr.heap.size 64 (.slice B q cc) (.bool xe) := hkX.2 _ _ (hDF.out _ _ _ _ hWr (by decide)) HXX.out rfl
          obtain ⟨v0, v1, _, _⟩ := hX3.cells
          have HJ3 := Lib.hid hJ3
          have HL3 : Hid (chk2 I k (ns.drop (k + 1)) (xs.drop 0) (m : Int) = some (N : Int)) := H2.out.1
          clear hJ3 hk3 hkX hX3 HP hyl hR2 HCX HSX HXX hXN u0 u1 f0 f1
          gi_wp2
          clear v0 v1
          gi_loopw [31] (fun v wq => ∃ (j m' : Nat), j ≤ q ∧ v = .int .i64 j ∧ k < m' ∧ m' ≤ N ∧ Hid (chk2 I k (ns.drop (k + 1)) (xs.drop j) (m' : Int) = some (N : Int)) ∧ Hid (J (k + 1) wq) ∧ Hid (KCo D W wq) ∧ Hid (BlkS wq F (kst K m'))) (fun v _ => q - (intOf v).toNat)
          case atStart => exact ⟨0, m, Nat.zero_le _, rfl, hkm, hmN, HL3.out, HJ3.out, HC3.out, HS3.out⟩
          case round =>
            clear HL3 HJ3 HC3 HS3
            obtain ⟨j, m', hj', rfl, hkm', hmN', hL, hj, hc, hs⟩ := hrel
            by_cases hlt2 : j < q
            · obtain ⟨b2, off2, z, rfl, hb2, hc2', hz⟩ := H2.out.2.2.1.at_ (k := j) (by rw [hq.out]; exact hlt2)
              have hc2 := MV.out wr hc.out b2 _ _ hb2 hc2'
              have hzs : xs[j]? = some z := by
                have := hz.out
                rw [List.getElem?_eq_getElem (by rw [hq.out]; exact hlt2)] at this ⊢
                exact congrArg some this
              have hL2 := hL.out
              rw [drop_at hzs] at hL2
              clear hc2' hz hL
              by_cases e3 : z = -1
              · subst e3
                rw [chk2_none] at hL2
                have HL2 := Lib.hid hL2
                clear hL2 hzs
                gi_wp2
                go_roundw
                case rel => exact ⟨j + 1, m', by omega, by go_num, hkm', hmN', HL2, hj, hc, hs⟩
                case measure => simp [intOf]; omega
              · have e4 : z = (m' : Int) := by
                  rcases Classical.em (z = (m' : Int)) with h | h
                  · exact h
                  · rw [chk2_bad e3 h] at hL2; cases hL2
                subst e4
                rw [chk2_met e3] at hL2
                have hm'N : m' + 1 ≤ N := by have := chk2_le hL2; omega
                obtain ⟨y', hy', hkid⟩ := HK.out.kid k j m' _ H2.out.2.2.2 hzs
                obtain rfl : y' = y := by
                  have := H2.out.2.1
                  rw [hy'] at this
                  injection this
                obtain ⟨f0, _⟩ := hs.out.at_ (kst_at hy' hkm')
                have hlenK : (kst K m').length = N := by rw [kst_len K (by rw [HK.out.len, HN.out]; exact hmN'), HK.out.len, HN.out]
                obtain ⟨vm, hvm⟩ : ∃ vm, (kst K m')[m']? = some vm := ⟨_, List.getElem?_eq_getElem (by omega)⟩
                obtain ⟨f2, f3⟩ := hs.out.at_ hvm
                have bA : Below wr.heap.size wr (wr.alloc (.cells #[.int .u8 j] 5)) := (Below.refl _ _).alloc (Nat.le_refl _) _
                obtain ⟨g0, _⟩ := (hs.out.below bA).at_ (kst_at hy' hkm')
                obtain ⟨g2, g3⟩ := (hs.out.below bA).at_ hvm
                have e3b : ((m' : Int) != -1) = true := by rw [bne_iff_ne]; omega
                have hj16 : j < 256 := by omega
                have hw8 : IntKind.u8.wrap (j : Int) = j := by rw [IntKind.wrap_u8]; omega
                obtain ⟨sv, hsv⟩ : ∃ sv : ByteArray, keyV (y' ++ [(j : Int)]) = .string sv := ⟨_, rfl⟩
                have hadd := fun w => kadd (a := y') (b := [(j : Int)]) (by have := HK.out.sh y' (List.mem_of_getElem? hy'); simp; omega) w
                rw [hsv] at hadd
                have HSV := Lib.hid hsv
                have hB8 : Blk8 (wr.alloc (.cells #[.int .u8 j] 5)).drew wr.heap.size [(j : Int)] := heap_alloc_new wr (.cells #[.int .u8 j] 5)
                have hcv := key_conv hB8 (by intro z hz; have := List.mem_singleton.1 hz; omega) 1 rfl
                have HL2 := Lib.hid hL2
                have HKD := Lib.hid hkid
                have hszW : W.heap.size ≤ wr.heap.size := hc.out.1
                have hsA := hs.out.below bA
                have hk9 : KIT W.heap.size wr ((wr.alloc (.cells #[.int .u8 j] 5)).setCell ⟨F, m', none⟩ (.string sv)).drew :=
                  (KIT.of_below bA hszW).trans ((KIT.set hsA (by rw [HFW.out]; exact Nat.le_refl _) _).trans (KIT.of_below (Below.refl _ _).drew (by have := bA.size; simp; omega)))
                have hB9 : BlkS ((wr.alloc (.cells #[.int .u8 j] 5)).setCell ⟨F, m', none⟩ (.string sv)).drew F (kst K (m' + 1)) := by
                  have := hsA.set_ m' (y' ++ [(j : Int)])
                  rw [hsv, kst_set hkid] at this
                  exact this
                have HF9 := Lib.hid (And.intro (JJ.out _ _ _ hj.out hk9) (And.intro (hc.out.kit hk9) hB9))
                clear hL2 hkid hy' hzs hlenK hB8 hvm hsv hk9 hB9 hsA hszW bA hj hc hs
                gi_wp2_with fail
                gi_region
                all_goals
                  gi_wp2
                  go_roundw
                  case rel => exact ⟨j + 1, m' + 1, by omega, by go_num, by omega, hm'N, HL2, HF9.out.1, HF9.out.2.1, HF9.out.2.2⟩
                  case measure => simp [intOf]; omega
            · obtain rfl : j = q := by omega
              have hL2 := hL.out
              rw [show xs.drop j = [] from List.drop_of_length_le (by rw [hq.out]; omega), chk2_nil] at hL2
              have HL2 : Hid (N = 0 ∨ fmr I (k + 1) (ns.drop (k + 1)) (m' : Int) = some (N : Int)) := Or.inr hL2
              clear hL2 hL
              gi_wp2
              go_roundw
              case rel => exact ⟨k + 1, m', by omega, by go_num, by omega, HL2, hj, hc, hs⟩
              case measure => simp [intOf]; omega
    · obtain rfl : k = N := by omega
      have hfin : Hid (J (K.zip ns).length wr) := by
        rw [List.length_zip, HK.out.len, HN.out, Nat.min_self]
        exact hj.out
      clear hj hf hc hs
      gi_wp2
      go_end0
      exact ⟨by first | trivial | exact ⟨_, rfl⟩, .inl hfin.out⟩
end Go.Proofs.Ytjodhihcckcefaa
