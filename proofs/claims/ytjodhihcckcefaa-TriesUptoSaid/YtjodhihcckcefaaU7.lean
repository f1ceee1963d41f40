/-
  Contracts: the keys of a map in the order of their words. No statement is proved here.
-/
import Derived.Test.YtjodhihcckcefaaU6
namespace Go.Proofs.Ytjodhihcckcefaa
open Go.RowKit Go.Maps

/-! ### The order of keys -/
theorem kcmp_lt {x y : List UInt8} : kcmp x y < 0 ↔ M.cmp (M.uW x) (M.uW y) = -1 := by
  unfold kcmp
  have := M.cmp_range (M.uW x) (M.uW y)
  omega
theorem cmpK_swo : Sort.SWO (ltOf cmpK) where
  irrefl x := by unfold ltOf cmpK; rw [decide_eq_false_iff_not, kcmp_lt, M.cmp_self]; omega
  trans x y z h1 h2 := by
    unfold ltOf cmpK at *
    rw [decide_eq_true_iff, kcmp_lt] at *
    exact M.lt_trans h1 h2
  ntrans x y z h1 h2 := by
    unfold ltOf cmpK at *
    rw [decide_eq_false_iff_not, kcmp_lt] at *
    have r1 := M.cmp_range (M.uW x.1) (M.uW y.1)
    have r2 := M.cmp_range (M.uW y.1) (M.uW z.1)
    have s1 := M.cmp_swap (M.uW x.1) (M.uW y.1)
    have s2 := M.cmp_swap (M.uW y.1) (M.uW z.1)
    have s3 := M.cmp_swap (M.uW x.1) (M.uW z.1)
    have t := M.cmp_trans (x := M.uW z.1) (y := M.uW y.1) (z := M.uW x.1) (by omega) (by omega)
    omega
theorem cmpK_total (x y : Ks) (h1 : ltOf cmpK x y = false) (h2 : ltOf cmpK y x = false) : x = y := by
  unfold ltOf cmpK at h1 h2
  rw [decide_eq_false_iff_not, kcmp_lt] at h1 h2
  have r1 := M.cmp_range (M.uW x.1) (M.uW y.1)
  have s1 := M.cmp_swap (M.uW x.1) (M.uW y.1)
  have : M.cmp (M.uW x.1) (M.uW y.1) = 0 := by omega
  exact Subtype.ext (M.uW_inj (M.cmp_zero_iff.1 this))
theorem cmpK_lays (blk off size : Nat) (w : World) : CmpLays1 Try.prog 85 #[] encK cmpK blk off size w := fun _ _ _ _ x y => cmpK_any x y _
/-- A slice over A reads as the keys ks, in a block from base on. -/
def RdT (w : World) (base : Nat) (A : Option Addr) (ks : List (List UInt8)) : Prop := 0 < ks.length → ∃ b off, A = some ⟨b, off, none⟩ ∧ base ≤ b ∧ b < w.heap.size ∧ ∀ k x, ks[k]? = some x → w.cell? ⟨b, off + k, none⟩ = some (encStr x)
theorem RdT.below {w w' : World} {base : Nat} {A : Option Addr} {ks : List (List UInt8)} (h : RdT w base A ks) (hb : Below w.heap.size w w') : RdT w' base A ks := fun hp => by
  obtain ⟨b, off, e, hB, hl, hc⟩ := h hp
  exact ⟨b, off, e, hB, Nat.lt_of_lt_of_le hl hb.size, fun k x hk => ((bcell hb).1 b _ hl).trans (hc k x hk)⟩
theorem RdT.lower {w : World} {base b' : Nat} {A : Option Addr} {ks : List (List UInt8)} (h : RdT w base A ks) (hb : b' ≤ base) : RdT w b' A ks := fun hp => by
  obtain ⟨b, off, e, hB, hl, hc⟩ := h hp
  exact ⟨b, off, e, by omega, hl, hc⟩
theorem RdT.away {w : World} {base G k : Nat} {A : Option Addr} {ks : List (List UInt8)} (h : RdT w base A ks) (u : Value) (hG : G < base) : RdT (w.setCell ⟨G, k, none⟩ u) base A ks := fun hp => by
  obtain ⟨b, off, e, hB, hl, hc⟩ := h hp
  refine ⟨b, off, e, hB, by simpa using hl, fun j x hk => ?_⟩
  rw [World.cell?_of_block (w := w) (a := ⟨b, off + j, none⟩) (Below.heap_setCell w ⟨G, k, none⟩ u b (fun e => by simp at e; omega))]
  exact hc j x hk
theorem own_blkT {w : World} {base blk n cap : Nat} {e : TypeId} {s : Nat} {xs : List Value} (h : w.ownsRow base e s (.slice (some ⟨blk, 0, none⟩) n cap) n xs) (hn : 0 < n) : base ≤ blk ∧ ∃ cur, w.heap[blk]? = some (.cells cur e (0, 0)) := by
  rcases h.2 with ⟨_, h0⟩ | ⟨g, cap', cur, e1, hb, hg, _⟩
  · omega
  · injection e1 with e1 _ _
    injection e1 with e1
    injection e1 with e1 _ _
    subst e1
    exact ⟨hb, cur, hg⟩
theorem heap_ltT {w : World} {g : Nat} {o : Obj} (h : w.heap[g]? = some o) : g < w.heap.size := (Array.getElem?_eq_some_iff.1 h).1
def dKs (ss : List (List UInt8)) (h : ∀ s ∈ ss, s.length ≤ 1000) : List Ks := ss.pmap (fun s hs => (⟨s, hs⟩ : Ks)) h
theorem dKs_map : ∀ (ss : List (List UInt8)) (h : ∀ s ∈ ss, s.length ≤ 1000), (dKs ss h).map (fun x : Ks => x.1) = ss
  | [], _ => rfl
  | s :: ss, h => congrArg (s :: ·) (dKs_map ss fun t ht => h t (by simp [ht]))
set_option maxRecDepth 100000 in
set_option maxHeartbeats 1000000 in
theorem tsort_any (base blk n cap : Nat) (ss : List (List UInt8)) (w : World) (h : w.ownsRow base 9 1 (.slice (some ⟨blk, 0, none⟩) n cap) n (ss.map encStr)) (hl : ss.length = n) (hp : 0 < n) (hn : n ≤ 1000000) (hall : ∀ s ∈ ss, s.length ≤ 1000) :
    Calls Try.prog 95 #[.slice (some ⟨blk, 0, none⟩) n cap, .func (.func 85) #[] #[]] w fun e w' => e = .returned (.tuple #[]) ∧ ∃ qs : List (List UInt8), qs.Perm ss ∧ qs.Pairwise (fun p q => ¬ kcmp q p < 0) ∧ RdT w' base (some ⟨blk, 0, none⟩) qs ∧ w.grownBy w' (some blk) := by
  obtain ⟨hb, cur, hg⟩ := own_blkT h hp
  have hblk := heap_ltT hg
  obtain ⟨ds, hds⟩ : ∃ ds, dKs ss hall = ds := ⟨_, rfl⟩
  have hmap := dKs_map ss hall
  rw [hds] at hmap
  have hdl : ds.length = n := by rw [← hl, ← hmap, List.length_map]
  have hsz : ds.toArray.size = n := by simpa using hdl
  have eg : ∀ args w, (callFunc 85 args).run Try.prog w = .ok (.enter 85 args) w := enters_of Try.func85 (by kernel_rfl) rfl
  have hH : Sort.Holds encK w blk 0 ds.toArray := by
    intro j hj
    rw [hsz] at hj
    refine ⟨?_, by simp [World.frozen?, hg]⟩
    have hjd : j < ds.length := by omega
    have e1 : ds.toArray[j]! = ds[j] := by rw [getElem!_pos ds.toArray j (by simpa using hjd)]; simp
    have e2 : (ss.map encStr)[j]? = some (encK ds[j]) := by
      rw [← hmap, List.map_map, List.getElem?_map, List.getElem?_eq_getElem hjd]
      rfl
    have := h.cells (g := blk) rfl j _ e2
    rw [Addr.add_lit] at this
    rw [e1]
    exact this
  have hcon := Try.slices_SortFunc_total encK (fun _ => rfl) cmpK cmpK_swo 85 #[] blk 0 cap ds.toArray w eg (cmpK_lays blk 0 ds.toArray.size w) hH hblk (by rw [hsz]; omega) cmpK_total
  rw [hsz] at hcon
  refine hcon.mono ?_
  rintro e w' ⟨rfl, m, os, rfl⟩
  obtain ⟨d', hd'⟩ : ∃ d', (ds.toArray.toList.mergeSort fun x y => !(ltOf cmpK) y x) = d' := ⟨_, rfl⟩
  have hpm : d'.Perm ds := by rw [← hd']; simpa using List.mergeSort_perm ds _
  have hpw : d'.Pairwise fun x y => (!(ltOf cmpK) y x) = true := by
    rw [← hd']
    refine List.pairwise_mergeSort (fun a b c h1 h2 => ?_) (fun a b => ?_) _
    · simp only [Bool.not_eq_true'] at *
      exact cmpK_swo.ntrans _ _ _ h2 h1
    · cases h1 : ltOf cmpK b a with
      | false => rfl
      | true =>
        cases h2 : ltOf cmpK a b with
        | false => rfl
        | true =>
          have := cmpK_swo.trans _ _ _ h1 h2
          rw [cmpK_swo.irrefl] at this
          cases this
  rw [hd']
  have hdl' : d'.toArray.size = ds.toArray.size := by simpa using hpm.length_eq
  have hold := holds_sortWorld encK w blk 0 m ds.toArray d'.toArray os hblk hH hdl'
  refine ⟨rfl, d'.map (fun x : Ks => x.1), ?_, ?_, ?_, ?_⟩
  · rw [← hmap]; exact hpm.map _
  · rw [List.pairwise_map]
    refine hpw.imp fun {a b} h1 => ?_
    simp only [Bool.not_eq_true'] at h1
    unfold ltOf at h1
    rw [decide_eq_false_iff_not] at h1
    exact h1
  · intro _
    refine ⟨blk, 0, rfl, hb, lt_sortWorld _ _ _ _ _ _ _ hblk, fun k x hk => ?_⟩
    rw [List.getElem?_map] at hk
    obtain ⟨y, hy, rfl⟩ := Option.map_eq_some_iff.1 hk
    obtain ⟨hkl, rfl⟩ := List.getElem?_eq_some_iff.1 hy
    have := (hold k (by simpa using hkl)).1
    rw [getElem!_pos d'.toArray k (by simpa using hkl)] at this
    exact this
  · have hkey : ∀ b, b < w.heap.size → (sortWorld encK w blk 0 m d'.toArray os).heap[b]? = (Sort.putRow encK (Sort.ahead w m) blk 0 d'.toArray).heap[b]? := fun b hb2 => by
      show ((Sort.putRow encK (Sort.ahead w m) blk 0 d'.toArray).heap ++ os)[b]? = _
      refine Array.getElem?_append_left ?_
      rw [Sort.size_putRow]
      exact hb2
    refine ⟨rfl, rfl, rfl, ?_, fun b hb2 hne => ?_⟩
    · show w.heap.size ≤ ((Sort.putRow encK (Sort.ahead w m) blk 0 d'.toArray).heap ++ os).size
      rw [Array.size_append]
      have : (Sort.putRow encK (Sort.ahead w m) blk 0 d'.toArray).heap.size = w.heap.size := Sort.size_putRow _ _ _ _ _
      omega
    · rw [hkey b hb2]
      show ((Sort.ahead w m).heap.modify blk _)[b]? = _
      rw [Array.getElem?_modify, if_neg (fun e => hne (by rw [e]))]
      rfl
/-- The keys that f tells, in the order of their words. -/
structure KeysOf' (f : Wf) (ks : List (List UInt8)) : Prop where
  asc : M.asc (ks.map M.uW)
  mem : ∀ x, x ∈ ks.map M.uW ↔ (f x).isSome = true
  len : ∀ s ∈ ks, s.length ≤ 1000
theorem KeysOf'.mk' {f : Wf} {ss qs : List (List UInt8)} (hnd : ss.Nodup) (hmem : ∀ s, s ∈ ss ↔ (f (M.uW s)).isSome = true) (hby : ∀ x, (f x).isSome = true → M.By x ∧ x.length ≤ 1000) (hp : qs.Perm ss) (hs : qs.Pairwise (fun p q => ¬ kcmp q p < 0)) : KeysOf' f qs := by
  refine ⟨?_, fun x => ?_, fun s hs => ?_⟩
  · have hn2 := hp.symm.nodup hnd
    unfold M.asc
    rw [List.pairwise_map]
    refine List.Pairwise.imp₂ (fun {p q} (h1 : ¬ kcmp q p < 0) (h2 : p ≠ q) => ?_) hs hn2
    rw [kcmp_lt] at h1
    have r := M.cmp_range (M.uW q) (M.uW p)
    have sw := M.cmp_swap (M.uW q) (M.uW p)
    have hz : M.cmp (M.uW q) (M.uW p) ≠ 0 := fun e => h2 (M.uW_inj (M.cmp_zero_iff.1 e)).symm
    omega
  · rw [List.mem_map]
    constructor
    · rintro ⟨s, h1, rfl⟩
      exact (hmem s).1 (hp.mem_iff.1 h1)
    · intro h1
      have e := M.uW_kU (hby x h1).1
      refine ⟨M.kU x, hp.mem_iff.2 ((hmem _).2 (by rw [e]; exact h1)), e⟩
  · have h1 := (hmem s).1 (hp.mem_iff.1 hs)
    have := (hby _ h1).2
    rwa [M.uW_len] at this
set_option maxRecDepth 100000 in
set_option maxHeartbeats 1000000 in
theorem sortedf_any (Bm b n N : Nat) (f : Wf) (w : World) (hBm : Bm < w.heap.size) (hm : w.cell? ⟨Bm, 0, none⟩ = some (.map (some b))) (hM : Mp w b n f) (hN : Sz f N) (_hn : n ≤ 1001001001) (hN2 : N ≤ 1000000) :
    Calls Try.prog 83 #[.func (.func 96) #[] #[.pointer (some ⟨Bm, 0, none⟩)], .func (.func 85) #[] #[]] w fun e w' => ∃ A c ks, e = .returned (.slice A N c) ∧ ks.length = N ∧ KeysOf' f ks ∧ RdT w' w.heap.size A ks ∧ Below w.heap.size w w' := by
  obtain ⟨D, hown, hMD⟩ := hM
  have hk := own_keys_f hown hMD
  have hsz := size_keys hown
  have hNe : (strKeys D).length = N := (hN.uniq ⟨_, hk.1, hk.2, rfl⟩).symm
  have hseq := AnyZ.keys_gives { Try.keys84 with } Fence.wide 3 trivial rfl (by omega) Bm b n D w hBm hm hown
  have eg : ∀ args w, (callFunc 96 args).run Try.prog w = .ok (.enter 96 args) w := enters_of Try.func96 (by kernel_rfl) rfl
  have hcol := (callsIn_wide (n := 5)).1 (AnyZ.collect_in Try.coll94 Fence.wide 5 trivial trivial rfl (by omega) 96 #[.pointer (some ⟨Bm, 0, none⟩)] trivial eg _ (Maps.size D) (by unfold maxLen; omega) (by omega) w hseq)
  change Calls Try.prog 94 _ _ _ at hcol
  have HC := Lib.hid hcol
  have HK := Lib.hid (And.intro hk hNe)
  have HB := Lib.hid hMD.by_
  clear hcol hseq hk hsz hNe hown hMD eg hm
  go_enter Try.func83, Try.ntmps83
  go_wp2_with fail
  refine HC.out.mono ?_
  rintro e w1 ⟨v, ss, rfl, hperm, hrow, hnil, hb1⟩
  change w1.ownsRow w.heap.size 9 1 v ss.length (ss.map encStr) at hrow
  obtain ⟨⟨hnd, hmem⟩, hlen⟩ := HK.out
  have hnd2 := hperm.symm.nodup hnd
  have hmem2 : ∀ s, s ∈ ss ↔ (f (M.uW s)).isSome = true := fun s => by rw [hperm.mem_iff]; exact hmem s
  have hssN : ss.length = N := by rw [← hlen]; exact hperm.length_eq
  by_cases h0 : ss = []
  · obtain rfl := hnil.2 h0
    subst h0
    obtain rfl : 0 = N := hssN
    have KO := Lib.hid (KeysOf'.mk' hnd2 hmem2 HB.out (List.Perm.refl _) List.Pairwise.nil)
    clear hrow hnil hnd hmem hnd2 hmem2 hperm hlen
    go_wp2_with fail
    refine (Try.slices_SortFunc_none (α := Ks) _ _ _ _).mono ?_
    rintro e w2 ⟨rfl, rfl⟩
    go_wp2
    go_ret
    exact ⟨_, _, [], rfl, rfl, KO.out, fun h => absurd h (by simp), hb1⟩
  · have hp : 0 < ss.length := List.length_pos_iff.2 h0
    obtain ⟨g, c, hv, hg⟩ : ∃ g c, v = .slice (some ⟨g, 0, none⟩) ss.length c ∧ w.heap.size ≤ g := by
      rcases hrow.2 with ⟨_, h1⟩ | ⟨g, c, cur, h1, h2, _⟩
      · omega
      · exact ⟨g, c, h1, h2⟩
    subst hv
    have hall : ∀ s ∈ ss, s.length ≤ 1000 := fun s hs => by
      have := (HB.out _ ((hmem2 s).1 hs)).2
      rwa [M.uW_len] at this
    have hS := tsort_any _ g ss.length c ss w1 hrow rfl hp (by omega) hall
    have HS := Lib.hid hS
    have HN := Lib.hid (And.intro hnd2 (And.intro hmem2 hssN))
    clear hS hrow hnil hnd hmem hnd2 hmem2 hperm hlen hall h0 hp
    rw [hssN] at HS ⊢
    clear hssN
    go_wp2_with fail
    refine HS.out.mono ?_
    rintro e w2 ⟨rfl, qs, hp2, hpw, hrd, hg2⟩
    have HR := Lib.hid hrd
    have HB2 := Lib.hid (hb1.grown hg2 hb1.size (fun j hj => by cases hj; exact hg))
    clear hrd hg2
    go_wp2
    go_ret
    exact ⟨_, _, qs, rfl, by rw [hp2.length_eq, HN.out.2.2], KeysOf'.mk' HN.out.1 HN.out.2.1 HB.out hp2 (hpw.imp fun h => by omega), HR.out, HB2.out⟩
set_option maxRecDepth 100000 in
set_option maxHeartbeats 1000000 in
theorem ordered_any (b n N : Nat) (f : Wf) (w : World) (hM : Mp w b n f) (hN : Sz f N) (hn : n ≤ 1001001001) (hN2 : N ≤ 1000000) :
    Calls Try.prog 70 #[.map (some b)] w fun e w' => ∃ A c ks, e = .returned (.slice A N c) ∧ ks.length = N ∧ KeysOf' f ks ∧ RdT w' w.heap.size A ks ∧ Below w.heap.size w w' := by
  have hkeys := (callsIn_wide (n := 5)).1 (AnyZ.keys_in Try.keys84 Fence.wide 5 trivial rfl (some b) w)
  change Calls Try.prog 84 _ _ (fun e w' => e = .returned (.func (.func 96) #[] #[.pointer (some ⟨w.heap.size, 0, none⟩)]) ∧ w' = w.alloc (.cells #[.map (some b)] 74)) at hkeys
  obtain ⟨W, hW⟩ : ∃ W, w.alloc (.cells #[.map (some b)] 74) = W := ⟨_, rfl⟩
  have hb1 : Below w.heap.size w W := by rw [← hW]; exact (Below.refl _ _).alloc (Nat.le_refl _) _
  have hc : W.cell? ⟨w.heap.size, 0, none⟩ = some (.map (some b)) := by
    rw [← hW, cell_of_row _ _ _ _ _ _ (heap_alloc_new _ _)]; rfl
  have hlt : w.heap.size < W.heap.size := by rw [← hW]; simp
  have HS := Lib.hid (sortedf_any w.heap.size b n N f W hlt hc (hM.mv hb1 hM.lt) hN hn hN2)
  have HB1 := Lib.hid hb1
  have HK := Lib.hid hkeys
  have hlt2 := Nat.le_of_lt hlt
  rw [hW] at HK
  clear hkeys hc hlt hb1 hW hM hN
  go_enter Try.func70, Try.ntmps70
  go_wp2_with fail
  refine HK.out.mono ?_
  rintro e w1 ⟨rfl, rfl⟩
  go_wp2_with fail
  refine HS.out.mono ?_
  rintro e w2 ⟨A, c, ks, rfl, hl, hk, hr, hb2⟩
  have HR := Lib.hid (And.intro hl (And.intro hk (And.intro hr (below_next HB1.out hb2))))
  clear hl hk hr hb2
  go_wp2
  go_ret
  exact ⟨_, _, ks, rfl, HR.out.1, HR.out.2.1, HR.out.2.2.1.lower hlt2, HR.out.2.2.2⟩
end Go.Proofs.Ytjodhihcckcefaa
