/-
  Contract: the reference's Beside. No statement is proved here.
-/
import Derived.Test.YtcbmohcjmofomaaEc0
import Derived.Test.YtcbmohcjmofomaaWh0
import Derived.Lib.MinMax
import Derived.Test.YtcbmohcjmofomaaEqM
import Derived.Deep.RegionHeld3
import Derived.Deep.CutRange
namespace Go.Proofs.Ytcbmohcjmofomaa
open Go.RowKit
open Mc (Ed Ma Wv)

/-- What Beside hands back. -/
def BesP (w : World) (i O : Int) (k : Nat) (rs : List (List Ed)) (e : Ending) (w' : World) : Prop := ∃ B' d, e = .returned (.agg #[.int .i64 i, .int .i64 O, .slice B' k d]) ∧ RdR w' B' rs ∧ Below w.heap.size w w'
set_option maxRecDepth 100000 in
set_option maxHeartbeats 4000000 in
theorem beside_any (a b : Ma) (i ao bo : Int) (A B : Option Addr) (n c n2 c2 : Nat) (w : World) (hra : RdR w A a.r) (hn : a.r.length = n) (hrb : RdR w B b.r) (hn2 : b.r.length = n2) (hnb : n ≤ 1000) (hnb2 : n2 ≤ 1000) (hi0 : 0 ≤ i ∧ i ≤ 1000) (hrl : ∀ row ∈ b.r, (row.length : Int) = i) (hre : ∀ row ∈ b.r, ∀ e ∈ row, e.1 ≤ 100000) :
    Calls Try.prog 42 #[.agg #[.int .i64 i, .int .i64 ao, .slice A n c], .agg #[.int .i64 i, .int .i64 bo, .slice B n2 c2]] w (BesP w i (max ao bo) (n + n2) (a.r ++ b.r.map fun row => row.map (Mc.sh n))) := by
  obtain ⟨h, hh⟩ : ∃ h, w.heap.size = h := ⟨_, rfl⟩
  obtain ⟨O, hO⟩ : ∃ O, max ao bo = O := ⟨_, rfl⟩
  rw [hO]
  obtain ⟨W1, hW1⟩ : ∃ W1, (((boxM (boxM w i ao A n c) i bo B n2 c2).alloc (.cells #[.int .i64 0, .int .i64 0, .slice none 0 0] 24)).alloc (.cells #[.int .i64 i, .int .i64 O, .slice none 0 0] 24)) = W1 := ⟨_, rfl⟩
  have hz1 : W1.heap.size = h + 4 := by rw [← hW1, ← hh]; simp [boxM]
  have HB : Below w.heap.size w W1 := by rw [← hW1]; exact ((((Below.refl _ _).alloc (Nat.le_refl _) _).alloc (by simp) _).alloc (by simp; omega) _).alloc (by simp; omega) _
  have HMA : BxM W1 h i ao A n c := by rw [← hW1]; exact (((BxM.newE hh i ao A n c).mvB ((Below.refl _ _).alloc (Nat.le_refl _) _)).mvB ((Below.refl _ _).alloc (Nat.le_refl _) _)).mvB ((Below.refl _ _).alloc (Nat.le_refl _) _)
  have HMB : BxM W1 (h + 1) i bo B n2 c2 := by rw [← hW1]; exact ((BxM.newE (by simp [boxM, hh]) i bo B n2 c2).mvB ((Below.refl _ _).alloc (Nat.le_refl _) _)).mvB ((Below.refl _ _).alloc (Nat.le_refl _) _)
  have HMZ : BxM W1 (h + 2) 0 0 none 0 0 := by rw [← hW1]; exact (BxM.newE (by simp [boxM, hh]) 0 0 none 0 0).mvB ((Below.refl _ _).alloc (Nat.le_refl _) _)
  have HM3 : Hid (W1.heap[h + 3]? = some (.cells #[.int .i64 i, .int .i64 O, .slice none 0 0] 24)) := by
    show _ = _
    rw [← hW1]
    have := heap_alloc_new ((boxM (boxM w i ao A n c) i bo B n2 c2).alloc (.cells #[.int .i64 0, .int .i64 0, .slice none 0 0] 24)) (.cells #[.int .i64 i, .int .i64 O, .slice none 0 0] 24)
    rw [show ((boxM (boxM w i ao A n c) i bo B n2 c2).alloc (.cells #[.int .i64 0, .int .i64 0, .slice none 0 0] 24)).heap.size = h + 3 by simp [boxM, hh]] at this
    exact this
  have RC : Hid (∀ wr, Below (h + 3) W1 wr → ∀ b o v, b < h → w.cell? ⟨b, o, none⟩ = some v → wr.cell? ⟨b, o, none⟩ = some v) := fun wr hb b o v hbl hv => (hb.cell (p := ⟨b, o, none⟩) (by show b < h + 3; omega)).trans ((HB.cell (p := ⟨b, o, none⟩) (by rw [hh]; exact hbl)).trans hv)
  have RM : Hid (∀ wr, Below (h + 3) W1 wr → (wr.cell? ⟨h, 2, none⟩ = some (.slice A n c)) ∧ (wr.cell? ⟨h + 1, 0, none⟩ = some (.int .i64 i)) ∧ (wr.cell? ⟨h + 1, 2, none⟩ = some (.slice B n2 c2))) := fun wr hb => by
    have h1 : BxM wr h i ao A n c := (hb.block h (by omega)).trans HMA
    have h2 : BxM wr (h + 1) i bo B n2 c2 := (hb.block (h + 1) (by omega)).trans HMB
    exact ⟨h1.cells.2.2, h2.cells.1, h2.cells.2.2⟩
  have RP : Hid (∀ wr A' row, Below (h + 3) W1 wr → RdP w A' row → RdP wr A' row) := fun wr A' row hb hr => hr.byBlock (by have := hb.size; omega) (fun x hx hp => by
    have := hr.lt hp hx
    exact (hb.block _ (by omega)).trans (HB.block _ this))
  have HN := Lib.hid hn
  have HN2 := Lib.hid hn2
  have HRL := Lib.hid hrl
  have HRE := Lib.hid hre
  have HBZ := Lib.hid HMZ
  have HBW := Lib.hid HB
  obtain ⟨r0, hr0, hr1, hr2, hr3⟩ := info_parts row_info
  have HO := Lib.hid hO
  have HW1 := Lib.hid hW1
  clear HB HMA HMB HMZ hn hn2 hrl hre hO hW1
  go_enter Try.func42, Try.ntmps42
  go_upto_region 2 with fail
  rw [show h + 1 + 1 + 1 = h + 3 from rfl, show h + 1 + 1 = h + 2 from rfl, HO.out]
  change Code.wp _ _ _ _ (((boxM (boxM w i ao A n c) i bo B n2 c2).alloc (.cells #[.int .i64 0, .int .i64 0, .slice none 0 0] 24)).alloc (.cells #[.int .i64 i, .int .i64 O, .slice none 0 0] 24))
  rw [HW1.out]
  clear HW1 HO
  go_wp2_with fail
  go_loopw [6] (fun v wr => ∃ (s : Nat) (V : Value) (vs : List Value), s ≤ n ∧ v = .int .i64 s ∧ Hid (wr.heap[h + 3]? = some (.cells #[.int .i64 i, .int .i64 O, V] 24)) ∧ Hid (BlM wr h (h + 4) V (a.r.take s) vs) ∧ Hid (Below (h + 3) W1 wr)) (fun v _ => n - (intOf v).toNat)
  case atStart => exact ⟨0, .slice none 0 0, [], Nat.zero_le _, rfl, HM3, BlM.nil_ _ _ _ (by omega), Below.refl _ _⟩
  case round =>
    clear HM3
    obtain ⟨s, V, vs, hs, rfl, hG, hB, hbr⟩ := hrel
    have hts : (a.r.take s).length = s := by rw [List.length_take, HN.out]; omega
    obtain ⟨A', c', hV, _⟩ := hB.out.rd
    rw [hts] at hV
    subst hV
    have HTS := Lib.hid hts
    obtain ⟨x2, _, _⟩ := RM.out wr hbr.out
    have g2 : wr.cell? ⟨h + 3, 2, none⟩ = some (.slice A' s c') := by rw [cell_of_row wr _ _ _ _ _ hG.out]; rfl
    have f2 : wr.frozen? ⟨h + 3, 2, none⟩ = false := by have := hG.out; simp [World.frozen?, this]
    have hGs : h + 4 ≤ wr.heap.size := by have := heap_lt hG.out; omega
    by_cases hsl : s < n
    · have hsl' : (s : Int) < n := by omega
      obtain ⟨b1, o1, R1, d1, m1, row1, rfl, hb1, hcw1, hl1, hl2, hl3, hpw1, hln1, hqr1⟩ := hra.at_ (show s < a.r.length by rw [HN.out]; exact hsl)
      have rc := RC.out wr hbr.out b1 (o1 + s) _ (by omega) hcw1
      have hown := hB.out.1
      rw [hts] at hown
      have hownE : (wr.alloc (.cells #[.slice R1 m1 d1] 29)).drew.ownsRow (h + 4) 29 1 (.slice A' s c') s vs := hown.alloc _
      have S1 : Hid (∀ (k : Nat) u, ([.slice R1 m1 d1] : List Value)[k]? = some u → (wr.alloc (.cells #[.slice R1 m1 d1] 29)).drew.cell? ((⟨wr.heap.size, 0, none⟩ : Addr).add k) = some u) := World.news_of_block (heap_alloc_new wr (.cells #[.slice R1 m1 d1] 29))
      have S2 : Hid (∀ u ∈ ([.slice R1 m1 d1] : List Value), u.oneCell' = true) := fun u hu => by simp at hu; subst hu; rfl
      have s3 : s + 1 ≤ maxLen := by unfold maxLen; omega
      have s4 : (s + 1) * 24 ≤ 140737488355328 := by omega
      have s5 : h + 4 ≤ (wr.alloc (.cells #[.slice R1 m1 d1] 29)).drew.heap.size := by
        show _ ≤ (wr.alloc (.cells #[.slice R1 m1 d1] 29)).heap.size
        rw [World.size_alloc]; omega
      have hneV : some (h + 3) ≠ (Value.slice A' s c').ownBlock := fun e => by have := (hown.lt _ e.symm).1; omega
      have hneH : some h ≠ (Value.slice A' s c').ownBlock := fun e => by have := (hown.lt _ e.symm).1; omega
      have hneB : some b1 ≠ (Value.slice A' s c').ownBlock := fun e => by have := (hown.lt _ e.symm).1; omega
      have hP0 : wr.cell? ⟨h, 2, none⟩ = some (.slice (some ⟨b1, o1, none⟩) n c) ∧ wr.cell? ⟨b1, o1 + s, none⟩ = some (.slice R1 m1 d1) ∧ wr.cell? ⟨h + 3, 2, none⟩ = some (.slice A' s c') ∧ wr.frozen? ⟨h + 3, 2, none⟩ = false := ⟨x2, rc, g2, f2⟩
      have hold : ∀ k, k < wr.heap.size → (wr.alloc (.cells #[.slice R1 m1 d1] 29)).drew.heap[k]? = wr.heap[k]? := fun k hk => Below.heap_alloc wr _ k hk
      have hPA : (wr.alloc (.cells #[.slice R1 m1 d1] 29)).drew.cell? ⟨h, 2, none⟩ = some (.slice (some ⟨b1, o1, none⟩) n c) ∧ (wr.alloc (.cells #[.slice R1 m1 d1] 29)).drew.cell? ⟨b1, o1 + s, none⟩ = some (.slice R1 m1 d1) ∧ (wr.alloc (.cells #[.slice R1 m1 d1] 29)).drew.cell? ⟨h + 3, 2, none⟩ = some (.slice A' s c') ∧ (wr.alloc (.cells #[.slice R1 m1 d1] 29)).drew.frozen? ⟨h + 3, 2, none⟩ = false :=
        ⟨(World.cell?_of_block (w := wr) (a := ⟨h, 2, none⟩) (hold h (by omega))).trans x2, (World.cell?_of_block (w := wr) (a := ⟨b1, o1 + s, none⟩) (hold b1 (by omega))).trans rc, (World.cell?_of_block (w := wr) (a := ⟨h + 3, 2, none⟩) (hold (h + 3) (by omega))).trans g2, (World.frozen?_of_block (w := wr) (a := ⟨h + 3, 2, none⟩) (hold (h + 3) (by omega))).trans f2⟩
      have hPF : ∀ w1, (wr.alloc (.cells #[.slice R1 m1 d1] 29)).drew.grownBy w1 (Value.slice A' s c').ownBlock → w1.cell? ⟨h, 2, none⟩ = some (.slice (some ⟨b1, o1, none⟩) n c) ∧ w1.cell? ⟨b1, o1 + s, none⟩ = some (.slice R1 m1 d1) ∧ w1.cell? ⟨h + 3, 2, none⟩ = some (.slice A' s c') ∧ w1.frozen? ⟨h + 3, 2, none⟩ = false := fun w1 hg => by
        have hk : ∀ k, k < wr.heap.size → some k ≠ (Value.slice A' s c').ownBlock → w1.heap[k]? = wr.heap[k]? := fun k hk hne => (hg.block k (by show k < (wr.alloc (.cells #[.slice R1 m1 d1] 29)).heap.size; rw [World.size_alloc]; omega) hne).trans (hold k hk)
        exact ⟨(World.cell?_of_block (w := wr) (a := ⟨h, 2, none⟩) (hk h (by omega) hneH)).trans x2, (World.cell?_of_block (w := wr) (a := ⟨b1, o1 + s, none⟩) (hk b1 (by omega) hneB)).trans rc, (World.cell?_of_block (w := wr) (a := ⟨h + 3, 2, none⟩) (hk (h + 3) (by omega) hneV)).trans g2, (World.frozen?_of_block (w := wr) (a := ⟨h + 3, 2, none⟩) (hk (h + 3) (by omega) hneV)).trans f2⟩
      have hfin : Hid (∀ g3 c3 w1, w1.ownsRow (h + 4) 29 1 (.slice (some ⟨g3, 0, none⟩) (s + 1) c3) (s + 1) (vs ++ [.slice R1 m1 d1]) → (wr.alloc (.cells #[.slice R1 m1 d1] 29)).drew.grownBy w1 (Value.slice A' s c').ownBlock → ((Value.slice A' s c').ownBlock = some g3 ∨ g3 = (wr.alloc (.cells #[.slice R1 m1 d1] 29)).drew.heap.size) →
          Hid ((w1.setCell ⟨h + 3, 2, none⟩ (.slice (some ⟨g3, 0, none⟩) (s + 1) c3)).heap[h + 3]? = some (.cells #[.int .i64 i, .int .i64 O, .slice (some ⟨g3, 0, none⟩) (s + 1) c3] 24)) ∧ Hid (BlM (w1.setCell ⟨h + 3, 2, none⟩ (.slice (some ⟨g3, 0, none⟩) (s + 1) c3)) h (h + 4) (.slice (some ⟨g3, 0, none⟩) (s + 1) c3) (a.r.take (s + 1)) (vs ++ [.slice R1 m1 d1])) ∧ Hid (Below (h + 3) W1 (w1.setCell ⟨h + 3, 2, none⟩ (.slice (some ⟨g3, 0, none⟩) (s + 1) c3)))) := fun g3 c3 w1 ho hg hat => by
        have hg' : (wr.alloc (.cells #[.slice R1 m1 d1] 29)).grownBy w1 (Value.slice A' s c').ownBlock := ⟨hg.os, hg.tape, hg.output, hg.size, hg.block⟩
        have hp := hB.out.push (row := row1) (B := R1) (c := d1) (w1 := w1) (V1 := .slice (some ⟨g3, 0, none⟩) (s + 1) c3) (o := .cells #[.slice R1 m1 d1] 29) (RP.out wr R1 row1 hbr.out hpw1) (by rw [hln1.out]; exact hl1) hl2 hl3 (fun hp => by
            obtain ⟨b, off, e, hb, _⟩ := hpw1 hp
            exact ⟨_, e, Or.inl (by show b < h; omega)⟩) (by rw [HTS.out, hln1.out]; exact ho) hg'
        rw [hln1.out] at hp
        have hk3 : w1.heap[h + 3]? = wr.heap[h + 3]? := (hg.block (h + 3) (by show h + 3 < (wr.alloc (.cells #[.slice R1 m1 d1] 29)).heap.size; rw [World.size_alloc]; omega) hneV).trans (hold (h + 3) (by omega))
        refine ⟨?_, ?_, ?_⟩
        · have := hk3.trans hG.out
          show _ = _
          simp [World.setCell, Array.getElem?_modify, this]
        · have h1 := hp.set_ (G := h + 3) (o := 2) (by omega) (by omega) (.slice (some ⟨g3, 0, none⟩) (s + 1) c3)
          rw [show a.r.take s ++ [row1] = a.r.take (s + 1) by rw [List.take_add_one, hqr1.out]; rfl] at h1
          exact h1
        · exact (((hbr.out.alloc (by omega) (.cells #[.slice R1 m1 d1] 29)).grown hg' (by rw [World.size_alloc]; omega) (fun j hj => by have := (hown.lt _ hj).1; omega)).setCell (p := ⟨h + 3, 2, none⟩) (Nat.le_refl _) _)
      have HF := Lib.hid hPF
      clear hold hown hneH hneB hneV hB hG hbr hcw1 hl1 hl2 hl3 hts hPF
      go_wp2_with fail
      obtain ⟨zA, zB, zC, zD⟩ := hPA
      go_region_law (refine step_append_lies _ rfl (.tmp 27) (.tmp 33) 22 rfl (h + 4) 29 r0 (.slice none 0 0) 1 24 Try.underlying22 hr0 hr1 hr2 hr3 rfl (by decide) (.slice A' s c') s vs (by simp [Act.eval]) hownE ⟨wr.heap.size, 0, none⟩ 1 1 [.slice R1 m1 d1] (by simp [Act.eval]) rfl S1.out S2.out (by decide) s3 s4 s5 _ rfl ?_; intro g3 c3 w1 hown1 hg1 hat1 hlt1; obtain ⟨y0, y1, y2, y3⟩ := HF.out _ hg1)
      all_goals
        obtain ⟨k1, k2, k3⟩ := hfin.out g3 c3 w1 hown1 hg1 hat1
        clear hownE hown1 hg1 hat1 hfin HF hP0
        go_wp2
        exact ⟨⟨s + 1, _, _, by omega, by go_num, k1, k2, k3⟩, by simp [intOf] <;> omega⟩
    · obtain rfl : s = n := by omega
      have hBR : Hid (BlM wr h (h + 4) (.slice A' s c') a.r vs) := by
        have h1 := hB.out
        rw [← HN.out, List.take_length, HN.out] at h1
        exact h1
      have hlt : ¬ ((s : Int) < s) := by omega
      have HBR := Lib.hid hbr.out
      have HGG := Lib.hid hG.out
      clear hB hbr hG HTS g2 f2 hGs hts
      go_wp2_with fail
      go_loopw [7] (fun v wr => ∃ (t : Nat) (V : Value) (vs : List Value), t ≤ n2 ∧ v = .int .i64 t ∧ Hid (wr.heap[h + 3]? = some (.cells #[.int .i64 i, .int .i64 O, V] 24)) ∧ Hid (BlM wr h (h + 4) V (a.r ++ (b.r.take t).map fun row => row.map (Mc.sh s)) vs) ∧ Hid (Below (h + 3) W1 wr)) (fun v _ => n2 - (intOf v).toNat)
      case atStart => exact ⟨0, _, vs, Nat.zero_le _, rfl, HGG, (by show BlM _ _ _ _ _ _; simpa using hBR.out), HBR⟩
      case round =>
        clear hBR HBR HGG x2
        obtain ⟨t, V, ws, ht, rfl, hG, hB, hbr⟩ := hrel
        have htl : (a.r ++ (b.r.take t).map fun row => row.map (Mc.sh s)).length = s + t := by rw [List.length_append, List.length_map, List.length_take, HN.out, HN2.out]; omega
        obtain ⟨A2, c3, hV, hrd⟩ := hB.out.rd
        rw [htl] at hV
        subst hV
        have HTL := Lib.hid htl
        have HRD := Lib.hid hrd
        obtain ⟨x2, y0, y2⟩ := RM.out wr hbr.out
        have g0 : wr.cell? ⟨h + 3, 0, none⟩ = some (.int .i64 i) := by rw [cell_of_row wr _ _ _ _ _ hG.out]; rfl
        have g1 : wr.cell? ⟨h + 3, 1, none⟩ = some (.int .i64 O) := by rw [cell_of_row wr _ _ _ _ _ hG.out]; rfl
        have g2 : wr.cell? ⟨h + 3, 2, none⟩ = some (.slice A2 (s + t) c3) := by rw [cell_of_row wr _ _ _ _ _ hG.out]; rfl
        have hGs : h + 4 ≤ wr.heap.size := by have := heap_lt hG.out; omega
        clear htl hrd
        by_cases htn : t < n2
        · have htn' : (t : Int) < n2 := by omega
          obtain ⟨b2, o2, R2, d2, m2, row2, rfl, hb2, hcw2, _, _, _, hpw2, hln2, hqr2⟩ := hrb.at_ (show t < b.r.length by rw [HN2.out]; exact htn)
          have hmi : Hid ((m2 : Int) = i) := by show _ = _; rw [← hln2.out]; exact HRL.out row2 (List.mem_of_getElem? hqr2.out)
          clear g0 g1 g2
          obtain ⟨wo, rfl⟩ : ∃ wo : World, wo = wr := ⟨_, rfl⟩
          have hm1000 : m2 ≤ 1000 := by have := hmi.out; omega
          go_wp2
          go_loopw [8, 9] (fun u v wr => ∃ (j : Nat) (xs : List Ed), j ≤ m2 ∧ v = .int .i64 j ∧ wr.ownsRow wo.heap.size 27 2 u xs.length (eC xs) ∧ Hid (xs = (row2.map (Mc.sh s)).take j) ∧ Below wo.heap.size wo wr) (fun _ v _ => m2 - (intOf v).toNat)
          case atStart => exact ⟨0, [], Nat.zero_le _, rfl, World.ownsRow_nil _ _ _ _, rfl, Below.refl _ _⟩
          case round =>
            clear x2 y0 y2
            obtain ⟨j, xs, hj, rfl, hown, hxs, hbr2⟩ := hrel
            have hbr3 : Below (h + 3) W1 wr := hbr.out.trans (hbr2.mono (by omega))
            obtain ⟨x2, y0, y2⟩ := RM.out wr hbr3
            have rc := RC.out wr hbr3 b2 (o2 + t) _ (by omega) hcw2
            by_cases hjl : j < m2
            · have hjl' : (j : Int) < i := by rw [← hmi.out]; omega
              obtain ⟨e2, f3, ex, eo, rfl, he2, hx2, hy2, hqe2⟩ := hpw2.at_ (k := j) (by rw [hln2.out]; exact hjl)
              have z0 := RC.out wr hbr3 e2 (f3 + j * 2) _ (by omega) hx2
              have z1 := RC.out wr hbr3 e2 (f3 + j * 2 + 1) _ (by omega) hy2
              have hex : ex ≤ 100000 := HRE.out row2 (List.mem_of_getElem? hqr2.out) (ex, eo) (List.mem_of_getElem? hqe2.out)
              have hszr := hbr2.size
              have hxl : Hid (xs.length ≤ 1000000) := by have := hxs.out; show _ ≤ _; rw [this, List.length_take]; omega
              have hbrA : Below (h + 3) W1 (wr.alloc (.cells #[.int .i64 ex, .int .i64 eo] 27)) := hbr3.alloc (by omega) _
              obtain ⟨x2', _, _⟩ := RM.out _ hbrA
              have hstep : Hid (∀ e, e = Mc.sh s (ex, eo) → xs ++ [e] = (row2.map (Mc.sh s)).take (j + 1)) := fun e he => by
                rw [List.take_add_one, ← hxs.out, List.getElem?_map, hqe2.out, he]; rfl
              have HBA := Lib.hid (hbr2.alloc hszr (.cells #[.int .i64 ex, .int .i64 eo] 27))
              have HOW := Lib.hid hown
              clear hbrA hx2 hy2 hcw2 hbr3 hown
              by_cases h0 : 0 ≤ ex
              · have hd0 : decide (ex ≥ 0) = true := decide_eq_true h0
                have hgo : Hid (xs ++ [(ex + s, eo)] = (row2.map (Mc.sh s)).take (j + 1)) := hstep.out _ (by unfold Mc.sh; rw [if_pos h0])
                have hwr : IntKind.i64.wrap (ex + (s : Int)) = ex + s := IntWalk.i64_in _ (by omega)
                go_upto_region 16 with fail
                obtain ⟨wx, hwx⟩ : ∃ wx, wr.alloc (.cells #[.int .i64 (ex + s), .int .i64 eo] 27) = wx := ⟨_, rfl⟩
                have q0 : wx.cell? ⟨wr.heap.size, 0, none⟩ = some (.int .i64 (ex + s)) := by rw [← hwx, World.cell?_alloc_at _ _ _ _ rfl]; rfl
                have q1 : wx.cell? ⟨wr.heap.size, 1, none⟩ = some (.int .i64 eo) := by rw [← hwx, World.cell?_alloc_at _ _ _ _ rfl]; rfl
                have hownx : wx.ownsRow wo.heap.size 27 2 u8 xs.length (eC xs) := by rw [← hwx]; exact HOW.out.alloc _
                have hbx : Below wo.heap.size wo wx := by rw [← hwx]; exact hbr2.alloc hszr _
                have hszx : wo.heap.size ≤ wx.heap.size := hbx.size
                obtain ⟨gx, hgx⟩ : ∃ g, wr.heap.size = g := ⟨_, rfl⟩
                rw [hwx, hgx]
                rw [hgx] at q0 q1
                clear hwx hgx x2 x2' y0 y2 rc z0 z1 HBA HOW
                go_wp2_with (at_builtin; refine wpList_append_edge _ ((ex + s)) eo hownx hxl.out hszx hbx rfl _ _ rfl rfl rfl ?_)
                intro v1 w1 hown1 hnn1 hbr4
                clear hownx q0 q1
                go_wp2
                go_roundw
                case rel => exact ⟨j + 1, xs ++ [((ex + s), eo)], by omega, by go_num, by rw [List.length_append]; exact hown1, hgo, hbr4⟩
                case measure => simp [intOf]; omega
              · have hd0 : decide (ex ≥ 0) = false := decide_eq_false h0
                have hgo : Hid (xs ++ [(ex, eo)] = (row2.map (Mc.sh s)).take (j + 1)) := hstep.out _ (by unfold Mc.sh; rw [if_neg h0])
                go_upto_region 16 with fail
                obtain ⟨wx, hwx⟩ : ∃ wx, wr.alloc (.cells #[.int .i64 ex, .int .i64 eo] 27) = wx := ⟨_, rfl⟩
                have q0 : wx.cell? ⟨wr.heap.size, 0, none⟩ = some (.int .i64 ex) := by rw [← hwx, World.cell?_alloc_at _ _ _ _ rfl]; rfl
                have q1 : wx.cell? ⟨wr.heap.size, 1, none⟩ = some (.int .i64 eo) := by rw [← hwx, World.cell?_alloc_at _ _ _ _ rfl]; rfl
                have hownx : wx.ownsRow wo.heap.size 27 2 u8 xs.length (eC xs) := by rw [← hwx]; exact HOW.out.alloc _
                have hbx : Below wo.heap.size wo wx := by rw [← hwx]; exact hbr2.alloc hszr _
                have hszx : wo.heap.size ≤ wx.heap.size := hbx.size
                obtain ⟨gx, hgx⟩ : ∃ g, wr.heap.size = g := ⟨_, rfl⟩
                rw [hwx, hgx]
                rw [hgx] at q0 q1
                clear hwx hgx x2 x2' y0 y2 rc z0 z1 HBA HOW
                go_wp2_with (at_builtin; refine wpList_append_edge _ (ex) eo hownx hxl.out hszx hbx rfl _ _ rfl rfl rfl ?_)
                intro v1 w1 hown1 hnn1 hbr4
                clear hownx q0 q1
                go_wp2
                go_roundw
                case rel => exact ⟨j + 1, xs ++ [(ex, eo)], by omega, by go_num, by rw [List.length_append]; exact hown1, hgo, hbr4⟩
                case measure => simp [intOf]; omega
            · have hji : ¬ (j : Int) < i := by rw [← hmi.out]; omega
              have hje : j = m2 := by omega
              have hxi : Hid (xs = row2.map (Mc.sh s)) := by
                have h := hxs.out
                rw [List.take_of_length_le (by rw [List.length_map, hln2.out]; omega)] at h
                exact h
              have hxl : Hid (xs.length = m2) := by show _ = _; rw [hxi.out, List.length_map]; exact hln2.out
              obtain ⟨Aq, cq, hq, hq1, hq2, hq3, hq4, hq5⟩ := own_putE (lo := h) (base := h + 4) hown (by omega)
              rw [hxl.out] at hq
              subst hq
              have hS1 := Lib.hid (cell_one_new wr (t := 29) (.slice Aq m2 cq))
              have hBr := Lib.hid (hB.out.below hbr2)
              have hown17 := (hBr.out.1.alloc (.cells #[.slice Aq m2 cq] 29))
              rw [HTL.out] at hown17
              have hS2 : Hid (∀ u ∈ ([.slice Aq m2 cq] : List Value), u.oneCell' = true) := fun u hu => by simp at hu; subst hu; rfl
              have hS3 : s + t + 1 ≤ maxLen := by unfold maxLen; omega
              have hS4 : (s + t + 1) * 24 ≤ 140737488355328 := by omega
              have hS5 : h + 4 ≤ (wr.alloc (.cells #[.slice Aq m2 cq] 29)).heap.size := by have := hbr2.size; rw [World.size_alloc]; omega
              have hG2 : Hid (wr.heap[h + 3]? = some (.cells #[.int .i64 i, .int .i64 O, .slice A2 (s + t) c3] 24)) := (hbr2.block _ (by omega)).trans hG.out
              have g2 : wr.cell? ⟨h + 3, 2, none⟩ = some (.slice A2 (s + t) c3) := by rw [cell_of_row wr _ _ _ _ _ hG2.out]; rfl
              have hwl : Hid (wo.heap.size ≤ wr.heap.size) := hbr2.size
              have HQ4 := Lib.hid hq4
              have HQ5 := Lib.hid hq5
              have HBR2 := Lib.hid hbr2
              have HBR3 := Lib.hid hbr3
              clear hown hq4 hq5 hcw2 rc x2 y2 hbr2 hbr3
              go_wp2_with (at_builtin; refine wpList_append_own _ rfl _ _ 22 rfl (h + 4) 29 r0 (.slice none 0 0) 1 24 Try.underlying22 hr0 hr1 hr2 hr3 rfl (by decide) _ _ _ rfl hown17 ⟨wr.heap.size, 0, none⟩ 1 1 [.slice Aq m2 cq] rfl rfl hS1.out hS2.out hS3 hS4 hS5 ?_)
              intro v1 w1 hown1 hg1 hnil1
              have hne : some (h + 3) ≠ (Value.slice A2 (s + t) c3).ownBlock := fun e => by
                have := (hown17.lt _ e.symm).1
                omega
              have hG3 : Hid (w1.heap[h + 3]? = some (.cells #[.int .i64 i, .int .i64 O, .slice A2 (s + t) c3] 24)) := by
                show _ = _
                rw [hg1.block (h + 3) (by rw [World.size_alloc]; have := hwl.out; omega) hne, heap_alloc_old wr _ (by have := hwl.out; omega)]
                exact hG2.out
              have g3 : w1.cell? ⟨h + 3, 2, none⟩ = some (.slice A2 (s + t) c3) := by rw [cell_of_row w1 _ _ _ _ _ hG3.out]; rfl
              have f3 : w1.frozen? ⟨h + 3, 2, none⟩ = false := by have := hG3.out; simp [World.frozen?, this]
              have hp := hBr.out.push (row := xs) (B := Aq) (c := cq) (V1 := v1) (w1 := w1) (o := .cells #[.slice Aq m2 cq] 29) HQ4.out hq1 hq2 hq3 HQ5.out (by rw [HTL.out, hxl.out]; exact hown1) hg1
              obtain ⟨A1, c1, hv1, _⟩ := hp.rd
              rw [List.length_append, HTL.out, List.length_singleton] at hv1
              subst hv1
              have hset := Lib.hid (hp.set_ (G := h + 3) (o := 2) (by omega) (by omega) (.slice A1 (s + t + 1) c1))
              have hRs : Hid ((a.r ++ (b.r.take t).map fun row => row.map (Mc.sh s)) ++ [xs] = a.r ++ (b.r.take (t + 1)).map fun row => row.map (Mc.sh s)) := by
                show _ = _
                rw [List.take_add_one, hqr2.out, hxi.out]
                simp
              have hG4 : Hid ((w1.setCell ⟨h + 3, 2, none⟩ (.slice A1 (s + t + 1) c1)).heap[h + 3]? = some (.cells #[.int .i64 i, .int .i64 O, .slice A1 (s + t + 1) c1] 24)) := by
                have := hG3.out
                show _ = _
                simp [World.setCell, Array.getElem?_modify, this]
              have hbF : Hid (Below (h + 3) W1 (w1.setCell ⟨h + 3, 2, none⟩ (.slice A1 (s + t + 1) c1))) :=
                ((HBR3.out.alloc (by have := hwl.out; omega) (.cells #[.slice Aq m2 cq] 29)).grown hg1 (by rw [World.size_alloc]; have := hwl.out; omega) (fun j hj => by have := (hown17.lt _ hj).1; omega)).setCell (p := ⟨h + 3, 2, none⟩) (Nat.le_refl (h + 3)) _
              clear hown17 hg1 hp hne hG3 hnil1 hown1 hG2 g2
              go_wp2
              go_roundw
              case rel => exact ⟨t + 1, _, _, by omega, by go_num, hG4, (by show BlM _ _ _ _ _ _; rw [← hRs.out]; exact hset.out), hbF⟩
              case measure => simp [intOf]; omega
        · obtain rfl : t = n2 := by omega
          have hlt : ¬ ((t : Int) < t) := by omega
          have hz0 : BxM wr (h + 2) 0 0 none 0 0 := (hbr.out.block (h + 2) (by omega)).trans HBZ.out
          obtain ⟨w0, w1, w2⟩ := hz0.cells
          have f0 : wr.frozen? ⟨h + 2, 0, none⟩ = false := by have : wr.heap[h + 2]? = _ := hz0; simp [World.frozen?, this]
          have f1 : wr.frozen? ⟨h + 2, 1, none⟩ = false := by have : wr.heap[h + 2]? = _ := hz0; simp [World.frozen?, this]
          have f2 : wr.frozen? ⟨h + 2, 2, none⟩ = false := by have : wr.heap[h + 2]? = _ := hz0; simp [World.frozen?, this]
          have hk := ((hB.out.set_ (G := h + 2) (o := 0) (by omega) (by omega) (.int .i64 i)).set_ (G := h + 2) (o := 1) (by omega) (by omega) (.int .i64 O)).set_ (G := h + 2) (o := 2) (by omega) (by omega) (.slice A2 (s + t) c3)
          obtain ⟨A3, c4, hv3, hrd3⟩ := hk.rd
          rw [HTL.out] at hv3
          injection hv3 with e1 _ e3
          subst e1 e3
          have HR3 := Lib.hid hrd3
          have hblk : Hid ((((wr.setCell ⟨h + 2, 0, none⟩ (.int .i64 i)).setCell ⟨h + 2, 1, none⟩ (.int .i64 O)).setCell ⟨h + 2, 2, none⟩ (.slice A2 (s + t) c3)).heap[h + 2]? = some (.cells #[.int .i64 i, .int .i64 O, .slice A2 (s + t) c3] 24)) := by
            have : wr.heap[h + 2]? = _ := hz0
            show _ = _
            simp [World.setCell, Array.getElem?_modify, this]
          have hbf : Hid (Below w.heap.size w (((wr.setCell ⟨h + 2, 0, none⟩ (.int .i64 i)).setCell ⟨h + 2, 1, none⟩ (.int .i64 O)).setCell ⟨h + 2, 2, none⟩ (.slice A2 (s + t) c3))) := by
            have h1 : Below w.heap.size w wr := ⟨hbr.out.os.trans HBW.out.os, hbr.out.tape.trans HBW.out.tape, hbr.out.output.trans HBW.out.output, Nat.le_trans HBW.out.size hbr.out.size, fun k hk => (hbr.out.block k (by omega)).trans (HBW.out.block k hk)⟩
            exact ((h1.setCell (p := ⟨h + 2, 0, none⟩) (by show w.heap.size ≤ h + 2; omega) _).setCell (p := ⟨h + 2, 1, none⟩) (by show w.heap.size ≤ h + 2; omega) _).setCell (p := ⟨h + 2, 2, none⟩) (by show w.heap.size ≤ h + 2; omega) _
          have hfr : Hid ((a.r ++ (b.r.take t).map fun row => row.map (Mc.sh s)) = a.r ++ b.r.map fun row => row.map (Mc.sh s)) := by
            show _ = _
            rw [← HN2.out, List.take_length]
          clear hk hrd3 hz0 hB hG hbr
          go_wp2
          obtain ⟨W, hW⟩ : ∃ W, (((wr.setCell ⟨h + 2, 0, none⟩ (.int .i64 i)).setCell ⟨h + 2, 1, none⟩ (.int .i64 O)).setCell ⟨h + 2, 2, none⟩ (.slice A2 (s + t) c3)) = W := ⟨_, rfl⟩
          rw [hW] at hblk hbf HR3 ⊢
          clear hW
          have e0 : W.cell? ⟨h + 2, 0, none⟩ = some (.int .i64 i) := by rw [cell_of_row _ _ _ _ _ _ hblk.out]; rfl
          have e1 : W.cell? ⟨h + 2, 1, none⟩ = some (.int .i64 O) := by rw [cell_of_row _ _ _ _ _ _ hblk.out]; rfl
          have e2 : W.cell? ⟨h + 2, 2, none⟩ = some (.slice A2 (s + t) c3) := by rw [cell_of_row _ _ _ _ _ _ hblk.out]; rfl
          refine bodyPost_ret (by simp [results, Try.results42, go_sem, e0, e1, e2]; rfl) rfl ?_
          exact ⟨A2, c3, rfl, by rw [← hfr.out]; exact HR3.out, hbf.out⟩
end Go.Proofs.Ytcbmohcjmofomaa
