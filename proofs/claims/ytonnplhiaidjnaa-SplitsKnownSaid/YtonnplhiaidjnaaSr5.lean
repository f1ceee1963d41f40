/-
  The walk of the law SplitsAfter. No statement is proved here.
-/
import Derived.Test.YtonnplhiaidjnaaSbY
import Derived.Test.YtonnplhiaidjnaaSt3
import Derived.Test.YtonnplhiaidjnaaRfY
import Derived.Test.YtonnplhiaidjnaaSkA
import Derived.Deep.RegionHeld3
import Derived.Deep.QuietTactic
import Derived.Deep.RegionLaw
import Derived.BigQuiet
namespace Go.Proofs.Ytonnplhiaidjnaa
open Go.RowKit
open Mc (Ed Ma)

namespace Mc
theorem sym_wd' {m : Ma} {i : Int} {zs : List Int} (hi : m.i = i) (h1 : 1 ≤ i) : Wd m (M.sym i zs) := by
  intro c hc
  have hc : c ∈ (zs.take 12).map (· % i) := hc
  obtain ⟨z, _, rfl⟩ := List.mem_map.1 hc
  rw [hi]
  exact ⟨Int.emod_nonneg _ (by omega), Int.emod_lt_of_pos _ (by omega)⟩
theorem sym_len' (i : Int) (zs : List Int) : (M.sym i zs).length ≤ 12 := by
  show ((zs.take 12).map (· % i)).length ≤ 12
  rw [List.length_map, List.length_take]; omega
/-- The classes by a word. -/
def aft8 (m : Ma) (ws : List Int) : List Int := M.ofL (stn m ws)
theorem aft8_len (m : Ma) (ws : List Int) : (aft8 m ws).length = m.r.length := by unfold aft8; rw [M.ofL_len, stn_len]
theorem aft8_vd (m : Ma) (ws : List Int) : M.Vd (aft8 m ws) := M.Vd.of_ _
theorem aft8_iff {m : Ma} (ws : List Int) {s t : Nat} (hs : s < m.r.length) (ht : t < m.r.length) : M.gz (aft8 m ws) s = M.gz (aft8 m ws) t ↔ run m s ws = run m t ws := by
  unfold aft8
  rw [M.ofL_gz (by rw [stn_len]; exact hs), M.ofL_gz (by rw [stn_len]; exact ht), ← stn_iff ws hs ht]
  constructor
  · intro h
    exact M.nu_inj (M.gz_mem (by rw [stn_len]; exact hs)) (M.gz_mem (by rw [stn_len]; exact ht)) (by omega)
  · intro h; rw [h]
/-- Each symbol more makes the classes finer. -/
theorem aft8_fin {m : Ma} (x y : List Int) : M.fin (aft8 m (x ++ y)) (aft8 m x) := fun s t hs ht e => by
  rw [aft8_len] at hs ht
  rw [aft8_iff _ hs ht] at e ⊢
  have h := congrArg (List.take x.length) e
  rw [run_app, run_app, List.take_left' (run_len m x _), List.take_left' (run_len m x _)] at h
  exact h
theorem cls_aft8 {m : Ma} (v : Val m) {ws : List Int} (hw : Wd m ws) : M.fin (cls m) (aft8 m ws) := fun s t hs ht e => by
  rw [show (cls m).length = m.r.length from rnd_len _ _] at hs ht
  rw [aft8_iff _ hs ht]
  exact cls_run v hs ht e ws hw
end Mc
theorem wof_cap (A : Option Addr) (c l : Nat) (zs : List Int) (n : Nat) (w : World) (h : Rd8 w A zs) (h1 : 1 ≤ n) (h2 : n ≤ 16) (hm : zs.length ≤ 9223372036854775807) (hl : zs.length = l) :
    Calls Try.prog 23 #[.agg #[.slice A l c], .int .i64 n] w fun e w' => ∃ B k q, e = .returned (.slice B k q) ∧ Hid ((M.sym n zs).length = k) ∧ k ≤ 12 ∧ k ≤ q ∧ Rd w' B (M.sym n zs) ∧ Below w.heap.size w w' := by
  subst hl
  refine (of_any A c zs n w h (by omega) (by omega) hm).mono ?_
  rintro e w' ⟨B, q, rfl, hrd, hc, hb⟩
  exact ⟨B, _, q, rfl, rfl, Mc.sym_len' _ _, hc, hrd, hb⟩
section
variable (m : Ma) (i : Nat) (o : Int) (A : Option Addr) (n c : Nat) (w : World)
theorem pafter_at (W : Option Addr) (k d : Nat) (ws : List Int) (v : Mc.Val m) (hi : m.i = i) (ho : m.o = o) (hn : m.r.length = n) (hk : ws.length = k) (hr : RdR w A m.r) (hw : Rd w W ws) (hwd : Mc.Wd m ws) (hk2 : k ≤ 256) :
    Calls Try.prog 43 #[.agg #[.int .i64 i, .int .i64 o, .slice A n c], .slice W k d] w fun e w' => ∃ B, e = .returned (.tuple #[.slice B n n, .int .i64 0]) ∧ Rd w' B (Mc.aft8 m ws) ∧ Below w.heap.size w w' := by
  refine (after_val m i o A W n c k d ws w 0 v hi ho hn hk hr hw (by omega) (Mc.check_wd v hwd (by omega))).mono ?_
  rintro e w' ⟨_, h1, h2⟩
  obtain ⟨B, rfl, h3⟩ := h1 rfl
  exact ⟨B, rfl, h3, h2⟩
theorem rafter_at (W : Option Addr) (k d : Nat) (ws : List Int) (v : Mc.Val m) (hi : m.i = i) (ho : m.o = o) (hn : m.r.length = n) (hk : ws.length = k) (hr : RdR w A m.r) (hw : Rd w W ws) (hwd : Mc.Wd m ws) (hk2 : k ≤ 256) :
    Calls Try.prog 44 #[.agg #[.int .i64 i, .int .i64 o, .slice A n c], .slice W k d] w fun e w' => ∃ B q, e = .returned (.slice B n q) ∧ Rd w' B (Mc.aft8 m ws) ∧ Below w.heap.size w w' :=
  rsafter_any m i o A W n c k d ws w v hi ho hn hk hr hw hwd (by omega)
theorem sfiner_at (P Q : Option Addr) (k c d : Nat) (p q : List Int) (hp : Rd w P p) (hq : Rd w Q q) (h1 : p.length = k) (h2 : q.length = k) (hk : k ≤ 300) (hf : M.fin p q) :
    Calls Try.prog 21 #[.slice P k c, .slice Q k d] w fun e w' => e = .returned (.int .i64 1) ∧ Below w.heap.size w w' := by
  subst h1
  have := rfiner_any P Q c d p q w hp hq h2.symm hk
  rwa [h2, M.finI_yes hf] at this
theorem rcount_at (P : Option Addr) (k c z : Nat) (p : List Int) (hp : Rd w P p) (hv : M.Vd p) (h1 : p.length = k) (hk : k ≤ 1000) (hz : M.cnt p = z) :
    Calls Try.prog 31 #[.slice P k c] w fun e w' => e = .returned (.int .i64 z) ∧ Below w.heap.size w w' := by
  subst h1 hz
  exact rcount_any P c p w hp hv hk
end
theorem cnt_rep : ∀ n, M.cnt (List.replicate (n + 1) (0 : Int)) = 1
  | 0 => rfl
  | n + 1 => by rw [List.replicate_succ', M.cnt_old (by simp), cnt_rep n]
theorem aft8_nil (m : Ma) (h : 1 ≤ m.r.length) : M.cnt (Mc.aft8 m []) = 1 := by
  have e : Mc.aft8 m [] = List.replicate m.r.length 0 := by
    have e1 : Mc.stn m [] = List.replicate m.r.length 0 := by
      refine List.eq_replicate_iff.2 ⟨Mc.stn_len _ _, fun z hz => ?_⟩
      unfold Mc.stn at hz
      obtain ⟨s, hs, rfl⟩ := List.mem_map.1 hz
      rw [Mc.fi_of (j := 0) (by rw [Mc.rsps_at [] (by omega)]; rfl) (fun i hi => absurd hi (by omega))]
      rfl
    unfold Mc.aft8
    rw [e1]
    exact Mc.rep_vd _
  rw [e]
  obtain ⟨k, hk⟩ : ∃ k, m.r.length = k + 1 := ⟨m.r.length - 1, by omega⟩
  rw [hk]
  exact cnt_rep k
set_option maxRecDepth 100000 in
set_option maxHeartbeats 8000000 in
theorem lawAfter_walk (a b d : Int) (p : Bool) (A : Option Addr) (c : Nat) (es : List Int) (B1 : Option Addr) (e1 : Nat) (ws : List Int) (w : World) (hr : Rd16 w A es) (hr8 : Rd8 w B1 ws) (hl : es.length ≤ 9223372036854775807) (hlw : ws.length ≤ 9223372036854775807) (ha : 0 ≤ a ∧ a ≤ 255) (hb : 0 ≤ b ∧ b ≤ 255) (hd : 0 ≤ d ∧ d ≤ 255) :
    Calls Try.prog 11 #[.agg #[.int .u8 a, .int .u8 b, .int .u8 d, .bool p, .slice A es.length c], .agg #[.slice B1 ws.length e1]] w fun e w' => e = .returned (.bool true) ∧ Below w.heap.size w w' := by
  obtain ⟨n, hn⟩ : ∃ n : Nat, 1 + a % 6 = n := ⟨(1 + a % 6).toNat, by omega⟩
  obtain ⟨i, hi⟩ : ∃ i : Nat, 1 + b % 3 = i := ⟨(1 + b % 3).toNat, by omega⟩
  obtain ⟨o, ho⟩ : ∃ o : Nat, 1 + d % 3 = o := ⟨(1 + d % 3).toNat, by omega⟩
  have hn6 : n ≤ 6 := by omega
  have hn1 : 1 ≤ n := by omega
  have hi1 : 1 ≤ i := by omega
  have hi3 : i ≤ 3 := by omega
  have CM := fun w hr => mof_at a b d p A c es n i o w hr hl ha hb hd hn hi ho
  obtain ⟨M, hM⟩ : ∃ M, Mc.mkN p n i o es = M := ⟨_, rfl⟩
  have V := Lib.hid (Mc.mkN_val (p := p) (n := n) (i := i) (o := o) (es := es) (by omega) (by omega) (by omega) (by omega) (by omega) (by omega))
  have hlen : Hid ((Mc.mkN p n i o es).r.length = n) := Mc.mkN_len _ _ _ _ _
  have hmi : Hid ((Mc.mkN p n i o es).i = i) := rfl
  have hmo : Hid ((Mc.mkN p n i o es).o = o) := rfl
  rw [hM] at V hlen hmi hmo
  simp only [hM] at CM
  obtain ⟨E1, hE1⟩ : ∃ E, ws.length = E := ⟨_, rfl⟩
  obtain ⟨E2, hE2⟩ : ∃ E, es.length = E := ⟨_, rfl⟩
  have CW := fun w h => wof_cap B1 e1 E1 ws i w h hi1 (by omega) hlw hE1
  have HW := Lib.hid (Mc.sym_wd' (m := M) (i := i) (zs := ws) hmi.out (by omega))
  obtain ⟨Y, hY⟩ : ∃ Y, Go.Proofs.Ytonnplhiaidjnaa.M.sym i ws = Y := ⟨_, rfl⟩
  rw [hY] at HW
  simp only [hY] at CW
  rw [hE1, hE2]
  simp only [hE2] at CM
  have hwdt : Hid (∀ k : Nat, Mc.Wd M (Y.take k)) := fun k c hc => HW.out c (List.mem_of_mem_take hc)
  obtain ⟨G, hG⟩ : ∃ G : Nat → List Int, G = fun (k : Nat) => Mc.aft8 M (Y.take k) := ⟨_, rfl⟩
  have HG := Lib.hid hG
  have HGL : Hid (∀ k, (G k).length = n) := fun k => by rw [hG]; exact (Mc.aft8_len _ _).trans hlen.out
  have HGV : Hid (∀ k, Go.Proofs.Ytonnplhiaidjnaa.M.Vd (G k)) := fun k => by rw [hG]; exact Mc.aft8_vd _ _
  have HGF : Hid (∀ k, k < Y.length → Go.Proofs.Ytonnplhiaidjnaa.M.fin (G (k + 1)) (G k)) := fun k hk => by
    rw [hG]
    show Go.Proofs.Ytonnplhiaidjnaa.M.fin (Mc.aft8 M (Y.take (k + 1))) (Mc.aft8 M (Y.take k))
    rw [List.take_add_one]
    exact Mc.aft8_fin _ _
  have HG0 : Hid (Go.Proofs.Ytonnplhiaidjnaa.M.cnt (G 0) = 1) := by
    rw [hG]
    exact aft8_nil M (by rw [hlen.out]; exact hn1)
  have HCL : Hid (Go.Proofs.Ytonnplhiaidjnaa.M.fin (Mc.cls M) (G Y.length)) := by
    rw [hG]
    exact Mc.cls_aft8 V.out (hwdt.out _)
  have HCN : Hid ((Mc.cls M).length = n) := (Mc.rnd_len _ _).trans hlen.out
  have CP := fun R c1 w W k d hk hr hw hk2 => pafter_at M i o R n c1 w W k d (Y.take k) V.out hmi.out hmo.out hlen.out hk hr hw (hwdt.out k) hk2
  have CR := fun R c1 w W k d hk hr hw hk2 => rafter_at M i o R n c1 w W k d (Y.take k) V.out hmi.out hmo.out hlen.out hk hr hw (hwdt.out k) hk2
  have HPG : Hid (∀ k, Mc.aft8 M (Y.take k) = G k) := fun k => by rw [hG]
  simp only [HPG.out] at CP CR
  have HR := Lib.hid hr
  have HR8 := Lib.hid hr8
  clear hM ha hb hd hn hi ho hl hr hr8 hY hG hlw hE1 hE2
  obtain ⟨K0, hK0⟩ : ∃ K0, w.heap.size = K0 := ⟨_, rfl⟩
  have s0 : MT w w [] := MT.start
  have s1 := MT.putK (P := fun w => w.heap[K0]? = some (.cells #[.int .u8 a, .int .u8 b, .int .u8 d, .bool p, .slice A E2 c] 24)) (MT.alloc s0 (.cells #[.int .u8 a, .int .u8 b, .int .u8 d, .bool p, .slice A E2 c] 24))
    (by rw [← hK0]; exact heap_alloc_new w _) (fun _ _ h hb => (hb.block _ (heap_lt h)).trans h)
  have s2 := MT.putK (P := fun w => w.heap[K0 + 1]? = some (.cells #[.slice B1 E1 e1] 45)) (MT.alloc s1 (.cells #[.slice B1 E1 e1] 45))
    (by
      have h := heap_alloc_new (w.alloc (.cells #[.int .u8 a, .int .u8 b, .int .u8 d, .bool p, .slice A E2 c] 24)) (.cells #[.slice B1 E1 e1] 45)
      rw [World.size_alloc, hK0] at h
      exact h) (fun _ _ h hb => (hb.block _ (heap_lt h)).trans h)
  clear s0 s1
  go_enter Try.func11, Try.ntmps11
  go_upto_region 1 with fail
  obtain ⟨W0, hW0⟩ : ∃ W0, (w.alloc (.cells #[.int .u8 a, .int .u8 b, .int .u8 d, .bool p, .slice A E2 c] 24)).alloc (.cells #[.slice B1 E1 e1] 45) = W0 := ⟨_, rfl⟩
  rw [hW0] at s2
  try rw [hW0]
  try rw [hK0]
  clear hW0 hK0
  have kM : W0.cell? ⟨K0, 0, none⟩ = some (.int .u8 a) ∧ W0.cell? ⟨K0, 1, none⟩ = some (.int .u8 b) ∧ W0.cell? ⟨K0, 2, none⟩ = some (.int .u8 d) ∧ W0.cell? ⟨K0, 3, none⟩ = some (.bool p) ∧ W0.cell? ⟨K0, 4, none⟩ = some (.slice A E2 c) := by
    have h1 := MK.get s2 1 rfl
    refine ⟨?_, ?_, ?_, ?_, ?_⟩ <;> (rw [cell_of_row _ _ _ _ _ _ h1]; rfl)
  obtain ⟨c0, c1, c2, c3, c4⟩ := kM
  go_wp2_with fail
  clear c0 c1 c2 c3 c4
  refine (CM _ (HR.out.below s2.2.1)).mono ?_
  rintro e w1 ⟨R, c1, rfl, hrd, hbl⟩
  have s3 := MK.putB (g := w1.heap.size) (MT.alloc (MK.putR (MT.next s2 hbl) hrd) (.cells #[.int .i64 i, .int .i64 o, .slice R n c1] 27)) (heap_alloc_new w1 _)
  clear s2 hrd hbl CM HR
  go_upto_region 2 with fail
  obtain ⟨g, hg⟩ : ∃ g, w1.heap.size = g := ⟨_, rfl⟩
  obtain ⟨W2, hW2⟩ : ∃ W, w1.alloc (.cells #[.int .i64 i, .int .i64 o, .slice R n c1] 27) = W := ⟨_, rfl⟩
  rw [hg, hW2] at s3
  try rw [hg]
  try rw [hW2]
  clear hg hW2
  have kW : W2.cell? ⟨K0 + 1, 0, none⟩ = some (.slice B1 E1 e1) := by
    have h1 := MK.get s3 2 rfl
    rw [cell_of_row _ _ _ _ _ _ h1]; rfl
  obtain ⟨m0, m1, m2⟩ := BxM.cells (MK.get s3 0 rfl)
  go_wp2_with fail
  clear m0 m1 m2 kW
  refine (CW _ (HR8.out.below s3.2.1)).mono ?_
  rintro e w3 ⟨WA, wl, wc, rfl, hwl, hw12, hwc, hrd, hbl⟩
  have s4 := MK.putL (MT.next s3 hbl) hrd
  clear s3 hrd hbl CW HR8
  go_wp2_with fail
  have S4 := Lib.hid s4
  have hz : Hid (Below w3.heap.size w3 w3) := Below.refl _ _
  clear s4
  go_loopw [7, 8] (fun x y wr => ∃ (k : Nat) (B : Option Addr) (q r : Nat), k ≤ wl + 1 ∧ y = .int .i64 k ∧ x = .slice B q r ∧ Hid (0 < k → q = n ∧ Rd wr B (G (k - 1))) ∧ Hid (Below w3.heap.size w3 wr)) (fun _ y _ => wl + 1 - (intOf y).toNat)
  case atStart => exact ⟨0, none, 0, 0, Nat.zero_le _, rfl, rfl, fun h => absurd h (by omega), hz⟩
  case round =>
    clear hz
    obtain ⟨k, B, q, r, hk, rfl, rfl, hB, hbr⟩ := hrel
    have sI := MT.next S4.out hbr.out
    obtain ⟨m0, m1, m2⟩ := BxM.cells (MK.get sI 1 rfl)
    by_cases hkl : k ≤ wl
    · have hkl' : decide ((k : Int) ≤ wl) = true := decide_eq_true (by omega)
      have hkc : (k : Int) ≤ wc := by omega
      go_upto_region 7 with fail
      have y0 : Below wr.heap.size wr wr.drew := (Below.refl _ _).drew
      have sD := MT.next sI y0
      obtain ⟨d0, d1, d2⟩ := BxM.cells (MK.get sD 1 rfl)
      have hYk : (Y.take k).length = k := by rw [List.length_take, hwl.out]; omega
      have hk256 : k ≤ 256 := by omega
      have rD : RdR wr.drew R M.r := MK.get sD 2 rfl
      have wD : Rd wr.drew WA (Y.take k) := Rd.takeL (MK.get sD 0 rfl) k
      go_region_law
        (first
          | (go_simp
             go_at_call 43
             (with_reducible refine (CP R c1 _ WA k wc hYk rD wD hk256).mono ?_)
             rintro e wa ⟨BP, rfl, hrP, hb⟩
             dsimp only)
          | fail)
      all_goals
        have s5 := MK.putL (MT.next sD hb) hrP
        have hbr5 := below_next hbr.out (below_next y0 hb)
        have hB5 : Hid (0 < k → q = n ∧ Rd wa B (G (k - 1))) := fun h => ⟨(hB.out h).1, (hB.out h).2.below (below_next y0 hb)⟩
        clear sD sI d0 d1 d2 m0 m1 m2 rD wD hrP hb y0 hB hbr
        obtain ⟨m0, m1, m2⟩ := BxM.cells (MK.get s5 2 rfl)
        go_upto_region 8 with fail
        have y0 : Below wa.heap.size wa wa.drew := (Below.refl _ _).drew
        have sD := MT.next s5 y0
        obtain ⟨d0, d1, d2⟩ := BxM.cells (MK.get sD 2 rfl)
        have rD : RdR wa.drew R M.r := MK.get sD 3 rfl
        have wD : Rd wa.drew WA (Y.take k) := Rd.takeL (MK.get sD 1 rfl) k
        have pD : Rd wa.drew BP (G k) := MK.get sD 0 rfl
        have hGk : (G k).length = n := HGL.out k
        have lg : g < wa.heap.size := heap_lt (MK.get s5 2 rfl)
        have KP : ∀ w', Below wa.heap.size wa w' → w'.cell? ⟨g, 0, none⟩ = some (.int .i64 i) ∧ w'.cell? ⟨g, 1, none⟩ = some (.int .i64 o) ∧ w'.cell? ⟨g, 2, none⟩ = some (.slice R n c1) := fun w' y =>
          ⟨(y.cell (p := ⟨g, 0, none⟩) lg).trans m0, (y.cell (p := ⟨g, 1, none⟩) lg).trans m1, (y.cell (p := ⟨g, 2, none⟩) lg).trans m2⟩
        have hn64 : n ≤ 9223372036854775807 := by omega
        have hn300 : n ≤ 300 := by omega
        have hn1000 : n ≤ 1000 := by omega
        have hGv := HGV.out k
        rcases Nat.eq_zero_or_pos k with hk0 | hk0
        · subst hk0
          have hG0 := HG0.out
          refine wp_region_held_drew (S := (fun w' => w'.cell? ⟨g, 0, none⟩ = some (.int .i64 i) ∧ w'.cell? ⟨g, 1, none⟩ = some (.int .i64 o) ∧ w'.cell? ⟨g, 2, none⟩ = some (.slice R n c1))) (by kernel_rfl) ⟨m0, m1, m2⟩ (fun hHeld => ?_)
          refine wpAnyH_take (i := 0) (oi := { dst := some 31, op := Op.move (Operand.tmp 9), type := 29, pos := "law.go:131", after := #[], guard := none }) (v := ?av0) rfl (by kernel_rfl) (by kernel_rfl) (by kernel_rfl) (fun _ _ _ h => h) (Or.inl ⟨by rfl, ?ah0⟩) (by assumption) ?ar0
          case ah0 =>
            intro w hSw
            (try dsimp only at hSw)
            first | (go_simp; done) | (go_simp; with_reducible rfl)
          (try simp only [Act.put, List.setIfInBounds_toArray])
          refine wpAnyH_take (i := 1) (oi := { dst := some 32, op := Op.move (Operand.tmp 10), type := 30, pos := "law.go:131", after := #[], guard := none }) (v := ?av1) rfl (by kernel_rfl) (by kernel_rfl) (by kernel_rfl) (fun _ _ _ h => h) (Or.inl ⟨by rfl, ?ah1⟩) (by assumption) ?ar1
          case ah1 =>
            intro w hSw
            (try dsimp only at hSw)
            first | (go_simp; done) | (go_simp; with_reducible rfl)
          (try simp only [Act.put])
          refine wpAnyH_take (i := 2) (oi := { dst := some 33, op := Op.load 27 (Operand.tmp 5), type := 27, pos := "law.go:131", after := #[], guard := none }) (v := ?av2) rfl (by kernel_rfl) (by kernel_rfl) (by kernel_rfl) (fun _ _ _ h => h) (Or.inl ⟨by rfl, ?ah2⟩) (by assumption) ?ar2
          case ah2 =>
            intro w hSw
            (try dsimp only at hSw)
            first | (go_simp; done) | (go_simp; with_reducible rfl)
          (try simp only [Act.put])
          refine wpAnyH_take (i := 3) (oi := { dst := some 34, op := Op.move (Operand.tmp 6), type := 29, pos := "law.go:131", after := #[], guard := none }) (v := ?av3) rfl (by kernel_rfl) (by kernel_rfl) (by kernel_rfl) (fun _ _ _ h => h) (Or.inl ⟨by rfl, ?ah3⟩) (by assumption) ?ar3
          case ah3 =>
            intro w hSw
            (try dsimp only at hSw)
            first | (go_simp; done) | (go_simp; with_reducible rfl)
          (try simp only [Act.put])
          refine wpAnyH_take (i := 4) (oi := { dst := some 35, op := Op.move (Operand.tmp 8), type := 3, pos := "law.go:131", after := #[], guard := none }) (v := ?av4) rfl (by kernel_rfl) (by kernel_rfl) (by kernel_rfl) (fun _ _ _ h => h) (Or.inl ⟨by rfl, ?ah4⟩) (by assumption) ?ar4
          case ah4 =>
            intro w hSw
            (try dsimp only at hSw)
            first | (go_simp; done) | (go_simp; with_reducible rfl)
          (try simp only [Act.put])
          refine wpAnyH_take (i := 5) (oi := { dst := some 36, op := Op.slice 29 (Operand.tmp 34) none (some (Operand.tmp 35)) none, type := 29, pos := "law.go:131", after := #[{ on := 3, ground := Ground.data }, { on := 4, ground := Ground.data }], guard := none }) (v := ?av5) rfl (by kernel_rfl) (by kernel_rfl) (by kernel_rfl) (fun _ _ _ h => h) (Or.inl ⟨by rfl, ?ah5⟩) (by assumption) ?ar5
          case ah5 =>
            intro w hSw
            (try dsimp only at hSw)
            first | (go_simp; done) | (go_simp; with_reducible rfl)
          (try simp only [Act.put])
          refine wpAnyH_ready (rs := [6]) (by kernel_rfl) (by simp) ?_
          refine AllReadyH.cons (o := { dst := some 37, op := Op.call { callee := Callee.value (Operand.func 44), args := #[Operand.tmp 33, Operand.tmp 36], argTypes := #[27, 29] }, type := 29, pos := "law.go:131", after := #[{ on := 2, ground := Ground.data }, { on := 5, ground := Ground.data }], guard := none }) rfl (fun K hK => ?_) AllReadyH.nil
          go_simp
          go_at_call 44
          (with_reducible refine (CR R c1 _ WA 0 wc hYk rD wD hk256).mono ?_)
          rintro e wb1 ⟨BR, qR, rfl, hrR, hb1⟩
          have pD1 := pD.below hb1
          have qD1 := trivial
          have y1 := below_next y0 hb1
          obtain ⟨x10, x11, x12⟩ := KP _ y1
          dsimp only
          refine hK.out _ _ ⟨x10, x11, x12⟩ (fun hHeld => ?_)
          clear hK K
          (try simp only [Act.put, List.setIfInBounds_toArray, List.set_cons_zero, List.set_cons_succ])
          refine wpAnyH_ready (rs := [7]) (by kernel_rfl) (by simp) ?_
          refine AllReadyH.cons (o := { dst := some 38, op := Op.call { callee := Callee.value (Operand.func 35), args := #[Operand.tmp 31, Operand.tmp 32, Operand.tmp 37, Operand.const (Value.int IntKind.i64 0)], argTypes := #[29, 30, 29, 3] }, type := 4, pos := "law.go:131", after := #[{ on := 0, ground := Ground.data }, { on := 1, ground := Ground.data }, { on := 6, ground := Ground.data }, { on := 6, ground := Ground.chain }], guard := none }) rfl (fun K hK => ?_) AllReadyH.nil
          go_simp
          go_at_call 35
          (with_reducible refine (slist_yes BP BR n qR (G 0) 0 _ pD1 hrR hGk hn64).mono ?_)
          rintro e wb2 ⟨rfl, hb2⟩
          have pD2 := pD1.below hb2
          have qD2 := trivial
          have y2 := below_next y1 hb2
          obtain ⟨x20, x21, x22⟩ := KP _ y2
          dsimp only
          refine hK.out _ _ ⟨x20, x21, x22⟩ (fun hHeld => ?_)
          clear hK K
          (try simp only [Act.put, List.setIfInBounds_toArray, List.set_cons_zero, List.set_cons_succ])
          refine wpAnyH_take (i := 8) (oi := { dst := some 39, op := Op.unOp UnOp.not 4 (Operand.tmp 38), type := 4, pos := "law.go:131", after := #[{ on := 7, ground := Ground.data }], guard := none }) (v := ?av8) rfl (by kernel_rfl) (by kernel_rfl) (by kernel_rfl) (fun _ _ _ h => h) (Or.inl ⟨by rfl, ?ah8⟩) (by assumption) ?ar8
          case ah8 =>
            intro w hSw
            (try dsimp only at hSw)
            first | (go_simp; done) | (go_simp; with_reducible rfl)
          (try simp only [Act.put, List.setIfInBounds_toArray, List.set_cons_zero, List.set_cons_succ])
          refine wpAnyH_take (i := 9) (oi := { dst := some 40, op := Op.move (Operand.tmp 39), type := 4, pos := "law.go:131", after := #[{ on := 8, ground := Ground.data }, { on := 7, ground := Ground.chain }], guard := none }) (v := ?av9) rfl (by kernel_rfl) (by kernel_rfl) (by kernel_rfl) (fun _ _ _ h => h) (Or.inl ⟨by rfl, ?ah9⟩) (by assumption) ?ar9
          case ah9 =>
            intro w hSw
            (try dsimp only at hSw)
            first | (go_simp; done) | (go_simp; with_reducible rfl)
          (try simp only [Act.put, List.setIfInBounds_toArray, List.set_cons_zero, List.set_cons_succ])
          refine wpAnyH_take (i := 10) (oi := { dst := some 41, op := Op.move (Operand.tmp 8), type := 3, pos := "law.go:131", after := #[{ on := 9, ground := Ground.guard }], guard := some (9, false) }) (v := ?av10) rfl (by kernel_rfl) (by kernel_rfl) (by kernel_rfl) (fun _ _ _ h => h) (Or.inl ⟨by rfl, ?ah10⟩) (by assumption) ?ar10
          case ah10 =>
            intro w hSw
            (try dsimp only at hSw)
            first | (go_simp; done) | (go_simp; with_reducible rfl)
          (try simp only [Act.put, List.setIfInBounds_toArray, List.set_cons_zero, List.set_cons_succ])
          refine wpAnyH_take (i := 11) (oi := { dst := some 42, op := Op.binOp BinOp.gtr 3 (Operand.tmp 41) (Operand.const (Value.int IntKind.i64 0)) 3, type := 4, pos := "law.go:131", after := #[{ on := 10, ground := Ground.data }, { on := 9, ground := Ground.guard }], guard := some (9, false) }) (v := ?av11) rfl (by kernel_rfl) (by kernel_rfl) (by kernel_rfl) (fun _ _ _ h => h) (Or.inl ⟨by rfl, ?ah11⟩) (by assumption) ?ar11
          case ah11 =>
            intro w hSw
            (try dsimp only at hSw)
            first | (go_simp; done) | (go_simp; with_reducible rfl)
          (try simp only [Act.put, List.setIfInBounds_toArray, List.set_cons_zero, List.set_cons_succ])
          refine wpAnyH_take (i := 12) (oi := { dst := some 43, op := Op.move (Operand.tmp 42), type := 4, pos := "law.go:131", after := #[{ on := 11, ground := Ground.data }, { on := 9, ground := Ground.chain }, { on := 9, ground := Ground.guard }], guard := some (9, false) }) (v := ?av12) rfl (by kernel_rfl) (by kernel_rfl) (by kernel_rfl) (fun _ _ _ h => h) (Or.inl ⟨by rfl, ?ah12⟩) (by assumption) ?ar12
          case ah12 =>
            intro w hSw
            (try dsimp only at hSw)
            first | (go_simp; done) | (go_simp; with_reducible rfl)
          (try simp only [Act.put, List.setIfInBounds_toArray, List.set_cons_zero, List.set_cons_succ])
          refine wpAnyH_take (i := 13) (oi := { dst := some 44, op := Op.move (Operand.tmp 9), type := 29, pos := "law.go:131", after := #[{ on := 12, ground := Ground.guard }], guard := some (12, true) }) (v := _) rfl (by kernel_rfl) (by kernel_rfl) (by kernel_rfl) (fun _ _ _ h => h) (Or.inr ⟨by rfl, rfl⟩) (by assumption) ?_
          (try simp only [Act.put, List.setIfInBounds_toArray, List.set_cons_zero, List.set_cons_succ])
          refine wpAnyH_take (i := 14) (oi := { dst := some 45, op := Op.move (Operand.tmp 7), type := 29, pos := "law.go:131", after := #[{ on := 12, ground := Ground.guard }], guard := some (12, true) }) (v := _) rfl (by kernel_rfl) (by kernel_rfl) (by kernel_rfl) (fun _ _ _ h => h) (Or.inr ⟨by rfl, rfl⟩) (by assumption) ?_
          (try simp only [Act.put, List.setIfInBounds_toArray, List.set_cons_zero, List.set_cons_succ])
          refine wpAnyH_take (i := 15) (oi := { dst := some 46, op := Op.call { callee := Callee.value (Operand.func 21), args := #[Operand.tmp 44, Operand.tmp 45], argTypes := #[29, 29] }, type := 3, pos := "law.go:131", after := #[{ on := 13, ground := Ground.data }, { on := 14, ground := Ground.data }, { on := 12, ground := Ground.chain }, { on := 12, ground := Ground.guard }], guard := some (12, true) }) (v := _) rfl (by kernel_rfl) (by kernel_rfl) (by kernel_rfl) (fun _ _ _ h => h) (Or.inr ⟨by rfl, rfl⟩) (by assumption) ?_
          (try simp only [Act.put, List.setIfInBounds_toArray, List.set_cons_zero, List.set_cons_succ])
          refine wpAnyH_take (i := 16) (oi := { dst := some 47, op := Op.binOp BinOp.neq 3 (Operand.tmp 46) (Operand.const (Value.int IntKind.i64 1)) 3, type := 4, pos := "law.go:131", after := #[{ on := 15, ground := Ground.data }, { on := 12, ground := Ground.guard }], guard := some (12, true) }) (v := _) rfl (by kernel_rfl) (by kernel_rfl) (by kernel_rfl) (fun _ _ _ h => h) (Or.inr ⟨by rfl, rfl⟩) (by assumption) ?_
          (try simp only [Act.put, List.setIfInBounds_toArray, List.set_cons_zero, List.set_cons_succ])
          refine wpAnyH_take (i := 17) (oi := { dst := some 48, op := Op.pick (Operand.tmp 43) (Operand.tmp 47) (Operand.const (Value.bool false)), type := 4, pos := "law.go:131", after := #[{ on := 12, ground := Ground.data }, { on := 16, ground := Ground.data }, { on := 9, ground := Ground.guard }], guard := some (9, false) }) (v := ?av17) rfl (by kernel_rfl) (by kernel_rfl) (by kernel_rfl) (fun _ _ _ h => h) (Or.inl ⟨by rfl, ?ah17⟩) (by assumption) ?ar17
          case ah17 =>
            intro w hSw
            (try dsimp only at hSw)
            first | (go_simp; done) | (go_simp; with_reducible rfl)
          (try simp only [Act.put, List.setIfInBounds_toArray, List.set_cons_zero, List.set_cons_succ])
          refine wpAnyH_take (i := 18) (oi := { dst := some 49, op := Op.pick (Operand.tmp 40) (Operand.const (Value.bool true)) (Operand.tmp 48), type := 4, pos := "law.go:131", after := #[{ on := 9, ground := Ground.data }, { on := 17, ground := Ground.data }], guard := none }) (v := ?av18) rfl (by kernel_rfl) (by kernel_rfl) (by kernel_rfl) (fun _ _ _ h => h) (Or.inl ⟨by rfl, ?ah18⟩) (by assumption) ?ar18
          case ah18 =>
            intro w hSw
            (try dsimp only at hSw)
            first | (go_simp; done) | (go_simp; with_reducible rfl)
          (try simp only [Act.put, List.setIfInBounds_toArray, List.set_cons_zero, List.set_cons_succ])
          refine wpAnyH_take (i := 19) (oi := { dst := some 50, op := Op.move (Operand.tmp 49), type := 4, pos := "law.go:131", after := #[{ on := 18, ground := Ground.data }, { on := 15, ground := Ground.chain }], guard := none }) (v := ?av19) rfl (by kernel_rfl) (by kernel_rfl) (by kernel_rfl) (fun _ _ _ h => h) (Or.inl ⟨by rfl, ?ah19⟩) (by assumption) ?ar19
          case ah19 =>
            intro w hSw
            (try dsimp only at hSw)
            first | (go_simp; done) | (go_simp; with_reducible rfl)
          (try simp only [Act.put, List.setIfInBounds_toArray, List.set_cons_zero, List.set_cons_succ])
          refine wpAnyH_take (i := 20) (oi := { dst := some 51, op := Op.move (Operand.tmp 8), type := 3, pos := "law.go:131", after := #[{ on := 19, ground := Ground.guard }], guard := some (19, false) }) (v := ?av20) rfl (by kernel_rfl) (by kernel_rfl) (by kernel_rfl) (fun _ _ _ h => h) (Or.inl ⟨by rfl, ?ah20⟩) (by assumption) ?ar20
          case ah20 =>
            intro w hSw
            (try dsimp only at hSw)
            first | (go_simp; done) | (go_simp; with_reducible rfl)
          (try simp only [Act.put, List.setIfInBounds_toArray, List.set_cons_zero, List.set_cons_succ])
          refine wpAnyH_take (i := 21) (oi := { dst := some 52, op := Op.binOp BinOp.eql 3 (Operand.tmp 51) (Operand.const (Value.int IntKind.i64 0)) 3, type := 4, pos := "law.go:131", after := #[{ on := 20, ground := Ground.data }, { on := 19, ground := Ground.guard }], guard := some (19, false) }) (v := ?av21) rfl (by kernel_rfl) (by kernel_rfl) (by kernel_rfl) (fun _ _ _ h => h) (Or.inl ⟨by rfl, ?ah21⟩) (by assumption) ?ar21
          case ah21 =>
            intro w hSw
            (try dsimp only at hSw)
            first | (go_simp; done) | (go_simp; with_reducible rfl)
          (try simp only [Act.put, List.setIfInBounds_toArray, List.set_cons_zero, List.set_cons_succ])
          refine wpAnyH_take (i := 22) (oi := { dst := some 53, op := Op.move (Operand.tmp 52), type := 4, pos := "law.go:131", after := #[{ on := 21, ground := Ground.data }, { on := 19, ground := Ground.chain }, { on := 19, ground := Ground.guard }], guard := some (19, false) }) (v := ?av22) rfl (by kernel_rfl) (by kernel_rfl) (by kernel_rfl) (fun _ _ _ h => h) (Or.inl ⟨by rfl, ?ah22⟩) (by assumption) ?ar22
          case ah22 =>
            intro w hSw
            (try dsimp only at hSw)
            first | (go_simp; done) | (go_simp; with_reducible rfl)
          (try simp only [Act.put, List.setIfInBounds_toArray, List.set_cons_zero, List.set_cons_succ])
          refine wpAnyH_take (i := 23) (oi := { dst := some 54, op := Op.move (Operand.tmp 9), type := 29, pos := "law.go:131", after := #[{ on := 22, ground := Ground.guard }], guard := some (22, true) }) (v := ?av23) rfl (by kernel_rfl) (by kernel_rfl) (by kernel_rfl) (fun _ _ _ h => h) (Or.inl ⟨by rfl, ?ah23⟩) (by assumption) ?ar23
          case ah23 =>
            intro w hSw
            (try dsimp only at hSw)
            first | (go_simp; done) | (go_simp; with_reducible rfl)
          (try simp only [Act.put, List.setIfInBounds_toArray, List.set_cons_zero, List.set_cons_succ])
          refine wpAnyH_ready (rs := [24]) (by kernel_rfl) (by simp) ?_
          refine AllReadyH.cons (o := { dst := some 55, op := Op.call { callee := Callee.value (Operand.func 31), args := #[Operand.tmp 54], argTypes := #[29] }, type := 3, pos := "law.go:131", after := #[{ on := 23, ground := Ground.data }, { on := 22, ground := Ground.chain }, { on := 22, ground := Ground.guard }], guard := some (22, true) }) rfl (fun K hK => ?_) AllReadyH.nil
          go_simp
          go_at_call 31
          (with_reducible refine (rcount_at _ BP n n 1 (G 0) pD2 hGv hGk hn1000 hG0).mono ?_)
          rintro e wb3 ⟨rfl, hb3⟩
          have pD3 := pD2.below hb3
          have y3 := below_next y2 hb3
          obtain ⟨x30, x31, x32⟩ := KP _ y3
          dsimp only
          refine hK.out _ _ ⟨x30, x31, x32⟩ (fun hHeld => ?_)
          clear hK K
          (try simp only [Act.put, List.setIfInBounds_toArray, List.set_cons_zero, List.set_cons_succ])
          refine wpAnyH_take (i := 25) (oi := { dst := some 56, op := Op.binOp BinOp.neq 3 (Operand.tmp 55) (Operand.const (Value.int IntKind.i64 1)) 3, type := 4, pos := "law.go:131", after := #[{ on := 24, ground := Ground.data }, { on := 22, ground := Ground.guard }], guard := some (22, true) }) (v := ?av25) rfl (by kernel_rfl) (by kernel_rfl) (by kernel_rfl) (fun _ _ _ h => h) (Or.inl ⟨by rfl, ?ah25⟩) (by assumption) ?ar25
          case ah25 =>
            intro w hSw
            (try dsimp only at hSw)
            first | (go_simp; done) | (go_simp; with_reducible rfl)
          (try simp only [Act.put, List.setIfInBounds_toArray, List.set_cons_zero, List.set_cons_succ])
          refine wpAnyH_take (i := 26) (oi := { dst := some 57, op := Op.pick (Operand.tmp 53) (Operand.tmp 56) (Operand.const (Value.bool false)), type := 4, pos := "law.go:131", after := #[{ on := 22, ground := Ground.data }, { on := 25, ground := Ground.data }, { on := 19, ground := Ground.guard }], guard := some (19, false) }) (v := ?av26) rfl (by kernel_rfl) (by kernel_rfl) (by kernel_rfl) (fun _ _ _ h => h) (Or.inl ⟨by rfl, ?ah26⟩) (by assumption) ?ar26
          case ah26 =>
            intro w hSw
            (try dsimp only at hSw)
            first | (go_simp; done) | (go_simp; with_reducible rfl)
          (try simp only [Act.put, List.setIfInBounds_toArray, List.set_cons_zero, List.set_cons_succ])
          refine wpAnyH_take (i := 27) (oi := { dst := some 58, op := Op.pick (Operand.tmp 50) (Operand.const (Value.bool true)) (Operand.tmp 57), type := 4, pos := "law.go:131", after := #[{ on := 19, ground := Ground.data }, { on := 26, ground := Ground.data }], guard := none }) (v := ?av27) rfl (by kernel_rfl) (by kernel_rfl) (by kernel_rfl) (fun _ _ _ h => h) (Or.inl ⟨by rfl, ?ah27⟩) (by assumption) ?ar27
          case ah27 =>
            intro w hSw
            (try dsimp only at hSw)
            first | (go_simp; done) | (go_simp; with_reducible rfl)
          (try simp only [Act.put, List.setIfInBounds_toArray, List.set_cons_zero, List.set_cons_succ])
          refine wpAnyH_done (by kernel_rfl) ?_ _
          all_goals
            have hbrF := Lib.hid (below_next hbr5 y3)
            have hpF := Lib.hid (below_next y3 (Below.refl _ _))
            have hNB : Hid (0 < 0 + 1 → n = n ∧ Rd wb3 BP (G (0 + 1 - 1))) := fun _ => ⟨rfl, pD3⟩
            clear KP x10 x11 x12 x20 x21 x22 x30 x31 x32 sD s5 rD wD pD d0 d1 d2 m0 m1 m2 hbr5 hB5 y0 y1 y2 y3 hb1 hb2 hb3 hrR pD1 pD2 pD3 qD1 qD2 hpF
            go_wp2_with fail
            go_roundw
            case rel => exact ⟨0 + 1, BP, n, n, by omega, by go_num, rfl, hNB, hbrF⟩
            case measure => simp [intOf]
        · obtain ⟨k, rfl⟩ : ∃ j, k = j + 1 := ⟨k - 1, by omega⟩
          obtain ⟨rfl, hBq⟩ := hB5.out hk0
          have qD : Rd wa.drew B (G k) := hBq.below y0
          have hfin := HGF.out k (by have := hwl.out; omega)
          have hGk2 : (G k).length = q := HGL.out k
          have dk0 : decide ((0 : Int) < ((k + 1 : Nat) : Int)) = true := decide_eq_true (by omega)
          have dk1 : (((k + 1 : Nat) : Int) == 0) = false := by simp; omega
          obtain ⟨kk, hkk⟩ : ∃ kk, k + 1 = kk := ⟨_, rfl⟩
          rw [hkk] at hYk wD hk256 pD hGk dk0 dk1 hfin hkl hkl' hkc hGv
          rw [hkk]
          have HKK := Lib.hid hkk
          have hkp : 0 < kk := by omega
          have hkn : kk ≠ 0 := by omega
          clear hkk hk hBq hB5 hk0
          refine wp_region_held_drew (S := (fun w' => w'.cell? ⟨g, 0, none⟩ = some (.int .i64 i) ∧ w'.cell? ⟨g, 1, none⟩ = some (.int .i64 o) ∧ w'.cell? ⟨g, 2, none⟩ = some (.slice R q c1))) (by kernel_rfl) ⟨m0, m1, m2⟩ (fun hHeld => ?_)
          refine wpAnyH_take (i := 0) (oi := { dst := some 31, op := Op.move (Operand.tmp 9), type := 29, pos := "law.go:131", after := #[], guard := none }) (v := ?bv0) rfl (by kernel_rfl) (by kernel_rfl) (by kernel_rfl) (fun _ _ _ h => h) (Or.inl ⟨by rfl, ?bh0⟩) (by assumption) ?br0
          case bh0 =>
            intro w hSw
            (try dsimp only at hSw)
            first | (go_simp; done) | (go_simp; with_reducible rfl)
          (try simp only [Act.put, List.setIfInBounds_toArray])
          refine wpAnyH_take (i := 1) (oi := { dst := some 32, op := Op.move (Operand.tmp 10), type := 30, pos := "law.go:131", after := #[], guard := none }) (v := ?bv1) rfl (by kernel_rfl) (by kernel_rfl) (by kernel_rfl) (fun _ _ _ h => h) (Or.inl ⟨by rfl, ?bh1⟩) (by assumption) ?br1
          case bh1 =>
            intro w hSw
            (try dsimp only at hSw)
            first | (go_simp; done) | (go_simp; with_reducible rfl)
          (try simp only [Act.put])
          refine wpAnyH_take (i := 2) (oi := { dst := some 33, op := Op.load 27 (Operand.tmp 5), type := 27, pos := "law.go:131", after := #[], guard := none }) (v := ?bv2) rfl (by kernel_rfl) (by kernel_rfl) (by kernel_rfl) (fun _ _ _ h => h) (Or.inl ⟨by rfl, ?bh2⟩) (by assumption) ?br2
          case bh2 =>
            intro w hSw
            (try dsimp only at hSw)
            first | (go_simp; done) | (go_simp; with_reducible rfl)
          (try simp only [Act.put])
          refine wpAnyH_take (i := 3) (oi := { dst := some 34, op := Op.move (Operand.tmp 6), type := 29, pos := "law.go:131", after := #[], guard := none }) (v := ?bv3) rfl (by kernel_rfl) (by kernel_rfl) (by kernel_rfl) (fun _ _ _ h => h) (Or.inl ⟨by rfl, ?bh3⟩) (by assumption) ?br3
          case bh3 =>
            intro w hSw
            (try dsimp only at hSw)
            first | (go_simp; done) | (go_simp; with_reducible rfl)
          (try simp only [Act.put])
          refine wpAnyH_take (i := 4) (oi := { dst := some 35, op := Op.move (Operand.tmp 8), type := 3, pos := "law.go:131", after := #[], guard := none }) (v := ?bv4) rfl (by kernel_rfl) (by kernel_rfl) (by kernel_rfl) (fun _ _ _ h => h) (Or.inl ⟨by rfl, ?bh4⟩) (by assumption) ?br4
          case bh4 =>
            intro w hSw
            (try dsimp only at hSw)
            first | (go_simp; done) | (go_simp; with_reducible rfl)
          (try simp only [Act.put])
          refine wpAnyH_take (i := 5) (oi := { dst := some 36, op := Op.slice 29 (Operand.tmp 34) none (some (Operand.tmp 35)) none, type := 29, pos := "law.go:131", after := #[{ on := 3, ground := Ground.data }, { on := 4, ground := Ground.data }], guard := none }) (v := ?bv5) rfl (by kernel_rfl) (by kernel_rfl) (by kernel_rfl) (fun _ _ _ h => h) (Or.inl ⟨by rfl, ?bh5⟩) (by assumption) ?br5
          case bh5 =>
            intro w hSw
            (try dsimp only at hSw)
            first | (go_simp; done) | (go_simp; with_reducible rfl)
          (try simp only [Act.put])
          refine wpAnyH_ready (rs := [6]) (by kernel_rfl) (by simp) ?_
          refine AllReadyH.cons (o := { dst := some 37, op := Op.call { callee := Callee.value (Operand.func 44), args := #[Operand.tmp 33, Operand.tmp 36], argTypes := #[27, 29] }, type := 29, pos := "law.go:131", after := #[{ on := 2, ground := Ground.data }, { on := 5, ground := Ground.data }], guard := none }) rfl (fun K hK => ?_) AllReadyH.nil
          go_simp
          go_at_call 44
          (with_reducible refine (CR R c1 _ WA kk wc hYk rD wD hk256).mono ?_)
          rintro e wb1 ⟨BR, qR, rfl, hrR, hb1⟩
          have pD1 := pD.below hb1
          have qD1 := qD.below hb1
          have y1 := below_next y0 hb1
          obtain ⟨x10, x11, x12⟩ := KP _ y1
          dsimp only
          refine hK.out _ _ ⟨x10, x11, x12⟩ (fun hHeld => ?_)
          clear hK K
          (try simp only [Act.put, List.setIfInBounds_toArray, List.set_cons_zero, List.set_cons_succ])
          refine wpAnyH_ready (rs := [7]) (by kernel_rfl) (by simp) ?_
          refine AllReadyH.cons (o := { dst := some 38, op := Op.call { callee := Callee.value (Operand.func 35), args := #[Operand.tmp 31, Operand.tmp 32, Operand.tmp 37, Operand.const (Value.int IntKind.i64 0)], argTypes := #[29, 30, 29, 3] }, type := 4, pos := "law.go:131", after := #[{ on := 0, ground := Ground.data }, { on := 1, ground := Ground.data }, { on := 6, ground := Ground.data }, { on := 6, ground := Ground.chain }], guard := none }) rfl (fun K hK => ?_) AllReadyH.nil
          go_simp
          go_at_call 35
          (with_reducible refine (slist_yes BP BR q qR (G kk) 0 _ pD1 hrR hGk hn64).mono ?_)
          rintro e wb2 ⟨rfl, hb2⟩
          have pD2 := pD1.below hb2
          have qD2 := qD1.below hb2
          have y2 := below_next y1 hb2
          obtain ⟨x20, x21, x22⟩ := KP _ y2
          dsimp only
          refine hK.out _ _ ⟨x20, x21, x22⟩ (fun hHeld => ?_)
          clear hK K
          (try simp only [Act.put, List.setIfInBounds_toArray, List.set_cons_zero, List.set_cons_succ])
          refine wpAnyH_take (i := 8) (oi := { dst := some 39, op := Op.unOp UnOp.not 4 (Operand.tmp 38), type := 4, pos := "law.go:131", after := #[{ on := 7, ground := Ground.data }], guard := none }) (v := ?bv8) rfl (by kernel_rfl) (by kernel_rfl) (by kernel_rfl) (fun _ _ _ h => h) (Or.inl ⟨by rfl, ?bh8⟩) (by assumption) ?br8
          case bh8 =>
            intro w hSw
            (try dsimp only at hSw)
            first | (go_simp; done) | (go_simp; with_reducible rfl)
          (try simp only [Act.put, List.setIfInBounds_toArray, List.set_cons_zero, List.set_cons_succ])
          refine wpAnyH_take (i := 9) (oi := { dst := some 40, op := Op.move (Operand.tmp 39), type := 4, pos := "law.go:131", after := #[{ on := 8, ground := Ground.data }, { on := 7, ground := Ground.chain }], guard := none }) (v := ?bv9) rfl (by kernel_rfl) (by kernel_rfl) (by kernel_rfl) (fun _ _ _ h => h) (Or.inl ⟨by rfl, ?bh9⟩) (by assumption) ?br9
          case bh9 =>
            intro w hSw
            (try dsimp only at hSw)
            first | (go_simp; done) | (go_simp; with_reducible rfl)
          (try simp only [Act.put, List.setIfInBounds_toArray, List.set_cons_zero, List.set_cons_succ])
          refine wpAnyH_take (i := 10) (oi := { dst := some 41, op := Op.move (Operand.tmp 8), type := 3, pos := "law.go:131", after := #[{ on := 9, ground := Ground.guard }], guard := some (9, false) }) (v := ?bv10) rfl (by kernel_rfl) (by kernel_rfl) (by kernel_rfl) (fun _ _ _ h => h) (Or.inl ⟨by rfl, ?bh10⟩) (by assumption) ?br10
          case bh10 =>
            intro w hSw
            (try dsimp only at hSw)
            first | (go_simp; done) | (go_simp; with_reducible rfl)
          (try simp only [Act.put, List.setIfInBounds_toArray, List.set_cons_zero, List.set_cons_succ])
          refine wpAnyH_take (i := 11) (oi := { dst := some 42, op := Op.binOp BinOp.gtr 3 (Operand.tmp 41) (Operand.const (Value.int IntKind.i64 0)) 3, type := 4, pos := "law.go:131", after := #[{ on := 10, ground := Ground.data }, { on := 9, ground := Ground.guard }], guard := some (9, false) }) (v := ?bv11) rfl (by kernel_rfl) (by kernel_rfl) (by kernel_rfl) (fun _ _ _ h => h) (Or.inl ⟨by rfl, ?bh11⟩) (by assumption) ?br11
          case bh11 =>
            intro w hSw
            (try dsimp only at hSw)
            first | (go_simp; done) | (go_simp; with_reducible rfl)
          (try simp only [Act.put, List.setIfInBounds_toArray, List.set_cons_zero, List.set_cons_succ])
          refine wpAnyH_take (i := 12) (oi := { dst := some 43, op := Op.move (Operand.tmp 42), type := 4, pos := "law.go:131", after := #[{ on := 11, ground := Ground.data }, { on := 9, ground := Ground.chain }, { on := 9, ground := Ground.guard }], guard := some (9, false) }) (v := ?bv12) rfl (by kernel_rfl) (by kernel_rfl) (by kernel_rfl) (fun _ _ _ h => h) (Or.inl ⟨by rfl, ?bh12⟩) (by assumption) ?br12
          case bh12 =>
            intro w hSw
            (try dsimp only at hSw)
            first | (go_simp; done) | (go_simp; with_reducible rfl)
          (try simp only [Act.put, List.setIfInBounds_toArray, List.set_cons_zero, List.set_cons_succ])
          refine wpAnyH_take (i := 13) (oi := { dst := some 44, op := Op.move (Operand.tmp 9), type := 29, pos := "law.go:131", after := #[{ on := 12, ground := Ground.guard }], guard := some (12, true) }) (v := ?bv13) rfl (by kernel_rfl) (by kernel_rfl) (by kernel_rfl) (fun _ _ _ h => h) (Or.inl ⟨by rfl, ?bh13⟩) (by assumption) ?br13
          case bh13 =>
            intro w hSw
            (try dsimp only at hSw)
            first | (go_simp; done) | (go_simp; with_reducible rfl)
          (try simp only [Act.put, List.setIfInBounds_toArray, List.set_cons_zero, List.set_cons_succ])
          refine wpAnyH_take (i := 14) (oi := { dst := some 45, op := Op.move (Operand.tmp 7), type := 29, pos := "law.go:131", after := #[{ on := 12, ground := Ground.guard }], guard := some (12, true) }) (v := ?bv14) rfl (by kernel_rfl) (by kernel_rfl) (by kernel_rfl) (fun _ _ _ h => h) (Or.inl ⟨by rfl, ?bh14⟩) (by assumption) ?br14
          case bh14 =>
            intro w hSw
            (try dsimp only at hSw)
            first | (go_simp; done) | (go_simp; with_reducible rfl)
          (try simp only [Act.put, List.setIfInBounds_toArray, List.set_cons_zero, List.set_cons_succ])
          refine wpAnyH_ready (rs := [15]) (by kernel_rfl) (by simp) ?_
          refine AllReadyH.cons (o := { dst := some 46, op := Op.call { callee := Callee.value (Operand.func 21), args := #[Operand.tmp 44, Operand.tmp 45], argTypes := #[29, 29] }, type := 3, pos := "law.go:131", after := #[{ on := 13, ground := Ground.data }, { on := 14, ground := Ground.data }, { on := 12, ground := Ground.chain }, { on := 12, ground := Ground.guard }], guard := some (12, true) }) rfl (fun K hK => ?_) AllReadyH.nil
          go_simp
          go_at_call 21
          (with_reducible refine (sfiner_at _ BP B q q r (G kk) (G k) pD2 qD2 hGk hGk2 hn300 hfin).mono ?_)
          rintro e wb3 ⟨rfl, hb3⟩
          have pD3 := pD2.below hb3
          have y3 := below_next y2 hb3
          obtain ⟨x30, x31, x32⟩ := KP _ y3
          dsimp only
          refine hK.out _ _ ⟨x30, x31, x32⟩ (fun hHeld => ?_)
          clear hK K
          (try simp only [Act.put, List.setIfInBounds_toArray, List.set_cons_zero, List.set_cons_succ])
          refine wpAnyH_take (i := 16) (oi := { dst := some 47, op := Op.binOp BinOp.neq 3 (Operand.tmp 46) (Operand.const (Value.int IntKind.i64 1)) 3, type := 4, pos := "law.go:131", after := #[{ on := 15, ground := Ground.data }, { on := 12, ground := Ground.guard }], guard := some (12, true) }) (v := ?bv16) rfl (by kernel_rfl) (by kernel_rfl) (by kernel_rfl) (fun _ _ _ h => h) (Or.inl ⟨by rfl, ?bh16⟩) (by assumption) ?br16
          case bh16 =>
            intro w hSw
            (try dsimp only at hSw)
            first | (go_simp; done) | (go_simp; with_reducible rfl)
          (try simp only [Act.put, List.setIfInBounds_toArray, List.set_cons_zero, List.set_cons_succ])
          refine wpAnyH_take (i := 17) (oi := { dst := some 48, op := Op.pick (Operand.tmp 43) (Operand.tmp 47) (Operand.const (Value.bool false)), type := 4, pos := "law.go:131", after := #[{ on := 12, ground := Ground.data }, { on := 16, ground := Ground.data }, { on := 9, ground := Ground.guard }], guard := some (9, false) }) (v := ?bv17) rfl (by kernel_rfl) (by kernel_rfl) (by kernel_rfl) (fun _ _ _ h => h) (Or.inl ⟨by rfl, ?bh17⟩) (by assumption) ?br17
          case bh17 =>
            intro w hSw
            (try dsimp only at hSw)
            first | (go_simp; done) | (go_simp; with_reducible rfl)
          (try simp only [Act.put, List.setIfInBounds_toArray, List.set_cons_zero, List.set_cons_succ])
          refine wpAnyH_take (i := 18) (oi := { dst := some 49, op := Op.pick (Operand.tmp 40) (Operand.const (Value.bool true)) (Operand.tmp 48), type := 4, pos := "law.go:131", after := #[{ on := 9, ground := Ground.data }, { on := 17, ground := Ground.data }], guard := none }) (v := ?bv18) rfl (by kernel_rfl) (by kernel_rfl) (by kernel_rfl) (fun _ _ _ h => h) (Or.inl ⟨by rfl, ?bh18⟩) (by assumption) ?br18
          case bh18 =>
            intro w hSw
            (try dsimp only at hSw)
            first | (go_simp; done) | (go_simp; with_reducible rfl)
          (try simp only [Act.put, List.setIfInBounds_toArray, List.set_cons_zero, List.set_cons_succ])
          refine wpAnyH_take (i := 19) (oi := { dst := some 50, op := Op.move (Operand.tmp 49), type := 4, pos := "law.go:131", after := #[{ on := 18, ground := Ground.data }, { on := 15, ground := Ground.chain }], guard := none }) (v := ?bv19) rfl (by kernel_rfl) (by kernel_rfl) (by kernel_rfl) (fun _ _ _ h => h) (Or.inl ⟨by rfl, ?bh19⟩) (by assumption) ?br19
          case bh19 =>
            intro w hSw
            (try dsimp only at hSw)
            first | (go_simp; done) | (go_simp; with_reducible rfl)
          (try simp only [Act.put, List.setIfInBounds_toArray, List.set_cons_zero, List.set_cons_succ])
          refine wpAnyH_take (i := 20) (oi := { dst := some 51, op := Op.move (Operand.tmp 8), type := 3, pos := "law.go:131", after := #[{ on := 19, ground := Ground.guard }], guard := some (19, false) }) (v := ?bv20) rfl (by kernel_rfl) (by kernel_rfl) (by kernel_rfl) (fun _ _ _ h => h) (Or.inl ⟨by rfl, ?bh20⟩) (by assumption) ?br20
          case bh20 =>
            intro w hSw
            (try dsimp only at hSw)
            first | (go_simp; done) | (go_simp; with_reducible rfl)
          (try simp only [Act.put, List.setIfInBounds_toArray, List.set_cons_zero, List.set_cons_succ])
          refine wpAnyH_take (i := 21) (oi := { dst := some 52, op := Op.binOp BinOp.eql 3 (Operand.tmp 51) (Operand.const (Value.int IntKind.i64 0)) 3, type := 4, pos := "law.go:131", after := #[{ on := 20, ground := Ground.data }, { on := 19, ground := Ground.guard }], guard := some (19, false) }) (v := ?bv21) rfl (by kernel_rfl) (by kernel_rfl) (by kernel_rfl) (fun _ _ _ h => h) (Or.inl ⟨by rfl, ?bh21⟩) (by assumption) ?br21
          case bh21 =>
            intro w hSw
            (try dsimp only at hSw)
            first | (go_simp; done) | (go_simp; with_reducible rfl)
          (try simp only [Act.put, List.setIfInBounds_toArray, List.set_cons_zero, List.set_cons_succ])
          refine wpAnyH_take (i := 22) (oi := { dst := some 53, op := Op.move (Operand.tmp 52), type := 4, pos := "law.go:131", after := #[{ on := 21, ground := Ground.data }, { on := 19, ground := Ground.chain }, { on := 19, ground := Ground.guard }], guard := some (19, false) }) (v := ?bv22) rfl (by kernel_rfl) (by kernel_rfl) (by kernel_rfl) (fun _ _ _ h => h) (Or.inl ⟨by rfl, ?bh22⟩) (by assumption) ?br22
          case bh22 =>
            intro w hSw
            (try dsimp only at hSw)
            first | (go_simp; done) | (go_simp; with_reducible rfl)
          (try simp only [Act.put, List.setIfInBounds_toArray, List.set_cons_zero, List.set_cons_succ])
          refine wpAnyH_take (i := 23) (oi := { dst := some 54, op := Op.move (Operand.tmp 9), type := 29, pos := "law.go:131", after := #[{ on := 22, ground := Ground.guard }], guard := some (22, true) }) (v := _) rfl (by kernel_rfl) (by kernel_rfl) (by kernel_rfl) (fun _ _ _ h => h) (Or.inr ⟨by rfl, rfl⟩) (by assumption) ?_
          (try simp only [Act.put, List.setIfInBounds_toArray, List.set_cons_zero, List.set_cons_succ])
          refine wpAnyH_take (i := 24) (oi := { dst := some 55, op := Op.call { callee := Callee.value (Operand.func 31), args := #[Operand.tmp 54], argTypes := #[29] }, type := 3, pos := "law.go:131", after := #[{ on := 23, ground := Ground.data }, { on := 22, ground := Ground.chain }, { on := 22, ground := Ground.guard }], guard := some (22, true) }) (v := _) rfl (by kernel_rfl) (by kernel_rfl) (by kernel_rfl) (fun _ _ _ h => h) (Or.inr ⟨by rfl, rfl⟩) (by assumption) ?_
          (try simp only [Act.put, List.setIfInBounds_toArray, List.set_cons_zero, List.set_cons_succ])
          refine wpAnyH_take (i := 25) (oi := { dst := some 56, op := Op.binOp BinOp.neq 3 (Operand.tmp 55) (Operand.const (Value.int IntKind.i64 1)) 3, type := 4, pos := "law.go:131", after := #[{ on := 24, ground := Ground.data }, { on := 22, ground := Ground.guard }], guard := some (22, true) }) (v := _) rfl (by kernel_rfl) (by kernel_rfl) (by kernel_rfl) (fun _ _ _ h => h) (Or.inr ⟨by rfl, rfl⟩) (by assumption) ?_
          (try simp only [Act.put, List.setIfInBounds_toArray, List.set_cons_zero, List.set_cons_succ])
          refine wpAnyH_take (i := 26) (oi := { dst := some 57, op := Op.pick (Operand.tmp 53) (Operand.tmp 56) (Operand.const (Value.bool false)), type := 4, pos := "law.go:131", after := #[{ on := 22, ground := Ground.data }, { on := 25, ground := Ground.data }, { on := 19, ground := Ground.guard }], guard := some (19, false) }) (v := ?bv26) rfl (by kernel_rfl) (by kernel_rfl) (by kernel_rfl) (fun _ _ _ h => h) (Or.inl ⟨by rfl, ?bh26⟩) (by assumption) ?br26
          case bh26 =>
            intro w hSw
            (try dsimp only at hSw)
            first | (go_simp; done) | (go_simp; with_reducible rfl)
          (try simp only [Act.put, List.setIfInBounds_toArray, List.set_cons_zero, List.set_cons_succ])
          refine wpAnyH_take (i := 27) (oi := { dst := some 58, op := Op.pick (Operand.tmp 50) (Operand.const (Value.bool true)) (Operand.tmp 57), type := 4, pos := "law.go:131", after := #[{ on := 19, ground := Ground.data }, { on := 26, ground := Ground.data }], guard := none }) (v := ?bv27) rfl (by kernel_rfl) (by kernel_rfl) (by kernel_rfl) (fun _ _ _ h => h) (Or.inl ⟨by rfl, ?bh27⟩) (by assumption) ?br27
          case bh27 =>
            intro w hSw
            (try dsimp only at hSw)
            first | (go_simp; done) | (go_simp; with_reducible rfl)
          (try simp only [Act.put, List.setIfInBounds_toArray, List.set_cons_zero, List.set_cons_succ])
          refine wpAnyH_done (by kernel_rfl) ?_ _
          all_goals
            have hbrF := Lib.hid (below_next hbr5 y3)
            have hpF := Lib.hid (below_next y3 (Below.refl _ _))
            have hNB : Hid (0 < kk + 1 → q = q ∧ Rd wb3 BP (G (kk + 1 - 1))) := fun _ => ⟨rfl, pD3⟩
            clear KP x10 x11 x12 x20 x21 x22 x30 x31 x32 sD s5 rD wD pD d0 d1 d2 m0 m1 m2 hbr5 y0 y1 y2 y3 hb1 hb2 hb3 hrR pD1 pD2 pD3 qD1 qD2 hpF qD hGk2
            go_wp2_with fail
            go_roundw
            case rel => exact ⟨kk + 1, BP, q, q, by omega, by go_num, rfl, hNB, hbrF⟩
            case measure => simp [intOf]; have := HKK.out; omega
    · obtain rfl : k = wl + 1 := by omega
      have hkl' : decide (((wl + 1 : Nat) : Int) ≤ wl) = false := decide_eq_false (by omega)
      obtain ⟨rfl, hBr⟩ := hB.out (by omega)
      rw [show wl + 1 - 1 = Y.length by rw [hwl.out]; omega] at hBr
      go_wp2_with fail
      clear m0 m1 m2
      refine (rclasses_any M i o R q c1 _ V.out hmi.out hlen.out (MK.get sI 2 rfl)).mono ?_
      rintro e w4 ⟨BC, qC, rfl, hrd, hbl⟩
      have hBr2 := hBr.below hbl
      have s6 := MT.next sI hbl
      clear sI hbl hB hBr
      go_wp2_with fail
      refine (sfiner_at _ BC B q qC r (Mc.cls M) (G Y.length) hrd hBr2 HCN.out (HGL.out _) (by omega) HCL.out).mono ?_
      rintro e w5 ⟨rfl, hbl⟩
      have hbF := Lib.hid (below_next s6.2.1 hbl)
      clear s6 hbl
      go_wp2_with fail
      refine (slives_walk _).mono ?_
      rintro e w6 ⟨rfl, hb⟩
      go_wp2_with fail
      go_ret
      exact ⟨rfl, below_next hbF.out hb⟩
end Go.Proofs.Ytonnplhiaidjnaa
