/-
  Several texts in one: Sq9, SqA. No statement is proved here.
-/
import Derived.Test.YtonnplhiaidjnaaSqF
import Derived.Test.YtonnplhiaidjnaaSkC
namespace Go.Proofs.Ytonnplhiaidjnaa
open Go.RowKit
open Mc (Ed Ma)

namespace Mc
/-- Where a list stands first. -/
def fi : List (List Int) → List Int → Nat
  | [], _ => 0
  | r :: l, x => if r = x then 0 else fi l x + 1
theorem fi_of : ∀ {rows : List (List Int)} {x : List Int} {j : Nat}, rows[j]? = some x → (∀ i, i < j → rows[i]? ≠ some x) → fi rows x = j
  | [], _, _, h, _ => by simp at h
  | r :: l, x, 0, h, _ => by simp at h; unfold fi; rw [if_pos h]
  | r :: l, x, j + 1, h, hn => by
    have h0 := hn 0 (by omega)
    simp at h0
    unfold fi
    rw [if_neg h0, fi_of (j := j) (by simpa using h) (fun i hi => by have := hn (i + 1) (by omega); simpa using this)]
theorem fi_at : ∀ {rows : List (List Int)} {x : List Int} {s : Nat}, rows[s]? = some x → rows[fi rows x]? = some x ∧ fi rows x ≤ s
  | [], _, _, h => by simp at h
  | r :: l, x, 0, h => by simp at h; unfold fi; rw [if_pos h]; simp [h]
  | r :: l, x, s + 1, h => by
    unfold fi
    by_cases e : r = x
    · rw [if_pos e]; simp [e]
    · rw [if_neg e]
      obtain ⟨h1, h2⟩ := fi_at (rows := l) (s := s) (by simpa using h)
      exact ⟨by simpa using h1, by omega⟩
/-- The responses of all states to a word. -/
def rsps (m : Ma) (ws : List Int) : List (List Int) := (List.range m.r.length).map fun (s : Nat) => run m s ws
theorem rsps_len (m : Ma) (ws : List Int) : (rsps m ws).length = m.r.length := by simp [rsps]
theorem rsps_at {m : Ma} (ws : List Int) {s : Nat} (h : s < m.r.length) : (rsps m ws)[s]? = some (run m s ws) := by simp [rsps, h]
/-- For each state the first one with its response. -/
def stn (m : Ma) (ws : List Int) : List Int := (List.range m.r.length).map fun (s : Nat) => ((fi (rsps m ws) (run m s ws) : Nat) : Int)
theorem stn_len (m : Ma) (ws : List Int) : (stn m ws).length = m.r.length := by simp [stn]
theorem stn_at {m : Ma} (ws : List Int) {s : Nat} (h : s < m.r.length) : (stn m ws)[s]? = some ((fi (rsps m ws) (run m s ws) : Nat) : Int) := by simp [stn, h]
theorem stn_gz {m : Ma} (ws : List Int) {s : Nat} (h : s < m.r.length) : M.gz (stn m ws) s = ((fi (rsps m ws) (run m s ws) : Nat) : Int) := by unfold M.gz; rw [stn_at ws h]; rfl
theorem stn_iff {m : Ma} (ws : List Int) {s t : Nat} (hs : s < m.r.length) (ht : t < m.r.length) : M.gz (stn m ws) s = M.gz (stn m ws) t ↔ run m s ws = run m t ws := by
  rw [stn_gz ws hs, stn_gz ws ht]
  constructor
  · intro h
    have e : fi (rsps m ws) (run m s ws) = fi (rsps m ws) (run m t ws) := by omega
    have h1 := (fi_at (rsps_at ws hs)).1
    have h2 := (fi_at (rsps_at ws ht)).1
    rw [e, h2] at h1
    injection h1 with h1
    exact h1.symm
  · intro h; rw [h]
theorem stn_lt {m : Ma} (ws : List Int) : ∀ z ∈ stn m ws, 0 ≤ z ∧ z < m.r.length := fun z hz => by
  unfold stn at hz
  obtain ⟨s, hs, rfl⟩ := List.mem_map.1 hz
  have hs := List.mem_range.1 hs
  have := (fi_at (rsps_at ws hs)).2
  exact ⟨by omega, by omega⟩
end Mc

/-- The closure: a list is held against the one in the box. -/
theorem after1_any (P Q : Option Addr) (b n c d : Nat) (xs ys : List Int) (r : Bool) (w : World) (h1 : Rd w P xs) (h2 : Rd w Q ys) (hbx : w.cell? ⟨b, 0, none⟩ = some (.slice Q n d)) (hx : xs.length = n) (hy : ys.length = n) (hn : n ≤ 1000000) (hb : M.same xs ys = r) :
    Calls Try.prog 71 #[.slice P n c, .pointer (some ⟨b, 0, none⟩)] w fun e w' => e = .returned (.bool r) ∧ Below w.heap.size w w' := by
  have C := equal2_any P Q n c d xs ys r w h1 h2 hx hy hn hb
  clear h1 h2 hx hy hb
  go_enter Try.func71, Try.ntmps71
  go_wp2_with fail
  refine C.mono ?_
  rintro e w1 ⟨rfl, hb1⟩
  go_wp2_with fail
  go_ret
  exact ⟨rfl, hb1⟩
set_option maxRecDepth 100000 in
theorem indexFunc_any (g k b n d : Nat) (rows : List (List Int)) (Q : Option Addr) (x : List Int) (s : Nat) (w : World) (hR : Rsp w g k rows) (hk : rows.length = k) (hk64 : k ≤ 64) (hl : ∀ r ∈ rows, r.length = n) (hQ : Rd w Q x) (hbx : w.cell? ⟨b, 0, none⟩ = some (.slice Q n d)) (hbl : b < w.heap.size) (hx : x.length = n) (hn : n ≤ 1000000) (hs : rows[s]? = some x) :
    Calls Try.prog 70 #[.slice (some ⟨g, 0, none⟩) k k, .func (.func 71) #[] #[.pointer (some ⟨b, 0, none⟩)]] w fun e w' => e = .returned (.int .i64 (Mc.fi rows x : Nat)) ∧ Below w.heap.size w w' := by
  have HR := Lib.hid hR
  have HK := Lib.hid hk
  have HL := Lib.hid hl
  have HQ := Lib.hid hQ
  have HX := Lib.hid hx
  have HS := Lib.hid hs
  have hsk : s < k := by rw [← hk]; exact (List.getElem?_eq_some_iff.1 hs).1
  have CA := fun w' P c xs r h1 h2 h3 h4 h5 => after1_any P Q b n c d xs x r w' h1 h2 h3 h4 hx hn h5
  have hz : Hid (Below w.heap.size w w) := Below.refl _ _
  obtain ⟨F, hF⟩ : ∃ F, Mc.fi rows x = F := ⟨_, rfl⟩
  have HF := Lib.hid hF
  rw [hF]
  clear hR hk hl hQ hx hs hF
  go_enter Try.func70, Try.ntmps70
  go_wp2_with fail
  go_loopw [8] (fun v wr => ∃ j : Nat, j ≤ s ∧ v = .int .i64 j ∧ Hid (∀ i, i < j → rows[i]? ≠ some x) ∧ Hid (Below w.heap.size w wr)) (fun v _ => k - (intOf v).toNat)
  case atStart => exact ⟨0, Nat.zero_le _, rfl, fun i h => absurd h (by omega), hz⟩
  case round =>
    clear hz
    obtain ⟨j, hj, rfl, hno, hbr⟩ := hrel
    have hjk : (j : Int) < k := by omega
    have hjl : j < rows.length := by rw [HK.out]; omega
    have hat := List.getElem?_eq_getElem hjl
    obtain ⟨y, hy⟩ : ∃ y, rows[j] = y := ⟨_, rfl⟩
    rw [hy] at hat
    obtain ⟨P, c, hc, hr⟩ := (HR.out.below hbr.out).at_ hat
    have hyl := HL.out y (List.mem_of_getElem? hat)
    rw [hyl] at hc
    have hb2 := (hbr.out.cell (p := ⟨b, 0, none⟩) hbl).trans hbx
    have HAT := Lib.hid hat
    cases hb : M.same y x with
    | true =>
      have C1 := CA wr P c y true hr (HQ.out.below hbr.out) hb2 hyl hb
      have hyx := Mc.same_iff'.1 hb
      have hfj : Hid (F = j) := by
        show _ = _
        rw [← HF.out]
        exact Mc.fi_of (by rw [HAT.out, hyx]) hno.out
      clear hy hat hr hyl hb hyx
      go_wp2_with fail
      refine C1.mono ?_
      rintro e w1 ⟨rfl, hb1⟩
      have hbF := Lib.hid (below_next hbr.out hb1)
      go_wp2_with fail
      go_ret
      exact ⟨ret_int (by rw [hfj.out]), hbF.out⟩
    | false =>
      have C1 := CA wr P c y false hr (HQ.out.below hbr.out) hb2 hyl hb
      have hyx : y ≠ x := fun e => by rw [e, M.same_yes rfl] at hb; cases hb
      have hjs : j < s := by
        rcases Nat.lt_or_ge j s with h | h
        · exact h
        · have : j = s := by omega
          subst this
          rw [HS.out] at hat
          injection hat with hat
          exact absurd hat.symm hyx
      have hno2 : Hid (∀ i, i < j + 1 → rows[i]? ≠ some x) := fun i hi => by
        by_cases e : i = j
        · subst e; rw [HAT.out]; intro e2; injection e2 with e2; exact hyx e2
        · exact hno.out i (by omega)
      clear hy hat hr hyl hb hyx hno
      go_wp2_with fail
      refine C1.mono ?_
      rintro e w1 ⟨rfl, hb1⟩
      have hbr2 := Lib.hid (below_next hbr.out hb1)
      go_wp2_with fail
      go_roundw
      case rel => exact ⟨j + 1, by omega, by go_num, hno2, hbr2⟩
      case measure => simp [intOf]; omega
end Go.Proofs.Ytonnplhiaidjnaa

namespace Go.Proofs.Ytonnplhiaidjnaa
open Go.RowKit
open Mc (Ed Ma)

set_option maxRecDepth 100000 in
theorem after_err (i o : Int) (rs : List (List Ed)) (A W : Option Addr) (n c kw dw : Nat) (w : World) (hr : RdR w A rs) (hn : rs.length = n) (hnb : n ≤ 1000000) (hrl : ∀ row ∈ rs, row.length ≤ 1000000) (E : Int) (hE : Mc.chk ⟨i, o, rs⟩ = E) (hne : E ≠ 0) :
    Calls Try.prog 43 #[.agg #[.int .i64 i, .int .i64 o, .slice A n c], .slice W kw dw] w fun e w' => e = .returned (.tuple #[.slice none 0 0, .int .i64 E]) ∧ Below w.heap.size w w' := by
  have b1 : Below w.heap.size w (boxM w i o A n c) := (Below.refl _ _).alloc (Nat.le_refl _) _
  have C1 := scheck_any i o rs A none n c 0 0 [] _ (hr.below b1) Rd.nil_ hn rfl hnb hrl (by omega)
  rw [Mc.skE_nil, hE] at C1
  have HB := Lib.hid b1
  have hne' : (E != 0) = true := by simp [hne]
  obtain ⟨m0, m1, m2⟩ := BxM.cells (BxM.new w i o A n c)
  clear b1 hr hrl hE
  go_enter Try.func43, Try.ntmps43
  go_wp2_with fail
  refine C1.mono ?_
  rintro e w1 ⟨rfl, hb1⟩
  have hbF := Lib.hid (below_next HB.out hb1)
  go_wp2_with fail
  go_returns
  exact ⟨rfl, hbF.out⟩
/-- The numbers up to n. -/
def upN (n : Nat) : List Int := (List.range n).map fun (s : Nat) => (s : Int)
theorem upN_len (n : Nat) : (upN n).length = n := by simp [upN]
theorem upN_at {n s : Nat} (h : s < n) : (upN n)[s]? = some (s : Int) := by simp [upN, h]
theorem fill_step {l : List Int} {n k : Nat} {z : Int} (hl : l.length = n) (hk : k < n) (hz : l[k]? = some z) : (l.take k ++ List.replicate (n - k) 0).set k z = l.take (k + 1) ++ List.replicate (n - (k + 1)) 0 := by
  rw [List.set_append_right _ _ (by rw [List.length_take]; omega), List.length_take, Nat.min_eq_left (by omega), Nat.sub_self, show n - k = (n - (k + 1)) + 1 by omega, List.replicate_succ, List.set_cons_zero, List.take_add_one, hz]
  simp
section
variable (m : Ma) (i : Nat) (o : Int) (A W : Option Addr) (n c kw dw : Nat) (ws : List Int) (w : World)
set_option maxRecDepth 100000 in
set_option maxHeartbeats 2000000 in
theorem after_val (E : Int) (v : Mc.Val m) (hi : m.i = i) (ho : m.o = o) (hn : m.r.length = n) (hkw : ws.length = kw) (hr : RdR w A m.r) (hw : Rd w W ws) (hkb : kw ≤ 1000000) (hE : M.check ws m.i = E) :
    Calls Try.prog 43 #[.agg #[.int .i64 i, .int .i64 o, .slice A n c], .slice W kw dw] w fun e w' => (E ≠ 0 → e = .returned (.tuple #[.slice none 0 0, .int .i64 E])) ∧ (E = 0 → ∃ B, e = .returned (.tuple #[.slice B n n, .int .i64 0]) ∧ Rd w' B (M.ofL (Mc.stn m ws))) ∧ Below w.heap.size w w' := by
  have hn64 : n ≤ 64 := by have := v.r1; omega
  have hn0 : 1 ≤ n := by have := v.r0; omega
  have b1 : Below w.heap.size w (boxM w i o A n c) := (Below.refl _ _).alloc (Nat.le_refl _) _
  have C1 := scheck_any m.i m.o m.r A none n c 0 0 [] _ (hr.below b1) Rd.nil_ hn rfl (by omega) (fun row hrow => by have := v.len row hrow; have := v.i1; omega) (by omega)
  rw [Mc.skE_nil, show Mc.chk ⟨m.i, m.o, m.r⟩ = 0 from Mc.chk_of v, hi, ho] at C1
  have hin : (upN n).all (Mc.inS m) = true := by
    rw [List.all_eq_true]
    intro s hs
    obtain ⟨j, hj, rfl⟩ := List.mem_map.1 hs
    exact Mc.inS_nat (by have := List.mem_range.1 hj; omega)
  have CB := fun S w hr hS hw hE0 => responses_err m i o A n c S W n n kw dw (upN n) ws E w v hi ho hn (upN_len n) hkw hr hS hw hin (by omega) hn64 hkb hE hE0
  have CK := fun S w hr hS hw hE0 => responses_ok m i o A n c S W n n kw dw (upN n) ws w v hi ho hn (upN_len n) hkw hr hS hw hin hn64 hkb (hE.trans hE0)
  have hmap : (upN n).map (fun s => Mc.run m s ws) = Mc.rsps m ws := by unfold upN Mc.rsps; rw [List.map_map, hn]; rfl
  rw [hmap] at CK
  have HV := Lib.hid v
  have HN := Lib.hid hn
  have HR := Lib.hid hr
  have HW := Lib.hid hw
  have HB := Lib.hid b1
  have HKW := Lib.hid hkw
  have HM := Lib.hid (BxM.new w i o A n c)
  obtain ⟨x0, x1, x2⟩ := BxM.cells HM.out
  clear b1 v hi ho hn hr hw hkw hin hmap hE
  go_enter Try.func43, Try.ntmps43
  go_wp2_with fail
  clear x0 x1 x2
  refine C1.mono ?_
  rintro e w1 ⟨rfl, hb1⟩
  have hM1 := HM.out.mvB hb1
  have hb2 := below_next HB.out hb1
  clear C1 HM HB
  obtain ⟨x0, x1, x2⟩ := BxM.cells hM1
  go_wp2_with (refine wpList_make_ints _ rfl _ _ rfl _ n rfl rfl rfl (by omega) ?_)
  intro w2 hB2 hb3
  clear x0 x1 x2
  have hM2 := Lib.hid (hM1.mvB hb3)
  have hb4 := Lib.hid (below_next hb2 hb3)
  have hB0 : Hid (Blk w2 w1.heap.size ((upN n).take 0 ++ List.replicate (n - 0) 0)) := by
    show Blk _ _ _
    simpa using hB2.out
  have hlg : w.heap.size < w1.heap.size := heap_lt hM1
  obtain ⟨g1, hg1⟩ : ∃ g1, w1.heap.size = g1 := ⟨_, rfl⟩
  rw [hg1] at hB0 hlg
  try rw [hg1]
  have hwg : w.heap.size ≤ g1 := by omega
  clear hM1 hb1 hb2 hb3 hB2 hg1
  go_wp2_with fail
  go_loopw [25] (fun v wr => ∃ j : Nat, j ≤ n ∧ v = .int .i64 j ∧ Hid (Blk wr g1 ((upN n).take j ++ List.replicate (n - j) 0)) ∧ Hid (BxM wr w.heap.size i o A n c) ∧ Hid (Below w.heap.size w wr)) (fun v _ => n - (intOf v).toNat)
  case atStart => exact ⟨0, Nat.zero_le _, rfl, hB0, hM2, hb4⟩
  case round =>
    clear hB0 hM2 hb4
    obtain ⟨j, hj, rfl, hB, hM, hbr⟩ := hrel
    by_cases hjn : j < n
    · have hjn' : (j : Int) < n := by omega
      obtain ⟨z, hz, hfz, _⟩ := hB.out.at_ (k := j) (by simp [upN_len]; omega)
      have hB3 := hB.out.set_ j (j : Int)
      rw [fill_step (upN_len n) hjn (upN_at hjn)] at hB3
      have HB3 := Lib.hid hB3
      have hM3 := Lib.hid (hM.out.farS (b := g1) (off := j) (by omega) (.int .i64 j))
      have hbr3 := Lib.hid (hbr.out.setCell (p := ⟨g1, j, none⟩) hwg (.int .i64 j))
      clear hB3 hB hM hbr
      go_wp2_with fail
      go_roundw
      case rel => exact ⟨j + 1, by omega, by go_num, HB3, hM3, hbr3⟩
      case measure => simp [intOf]; omega
    · obtain rfl : j = n := by omega
      have hjn' : ¬ (j : Int) < j := by omega
      have hS : Rd wr (some ⟨g1, 0, none⟩) (upN j) := by
        have := hB.out.rd
        rwa [List.take_of_length_le (by rw [upN_len]; exact Nat.le_refl _), Nat.sub_self, List.replicate_zero, List.append_nil] at this
      obtain ⟨x0, x1, x2⟩ := BxM.cells hM.out
      by_cases hE0 : E = 0
      · subst hE0
        have C2 := CK _ wr (HR.out.below hbr.out) hS (HW.out.below hbr.out) rfl
        clear hB CB CK hS
        go_wp2_with fail
        clear x0 x1 x2
        refine C2.mono ?_
        rintro e w3 ⟨g, rfl, hRs, hb5⟩
        have hb6 := Lib.hid (below_next hbr.out hb5)
        clear C2 hbr hM hb5
        go_wp2_with (refine wpList_make_ints _ rfl _ _ rfl _ j rfl rfl rfl (by omega) ?_)
        intro w4 hB4 hb7
        have hB5 : Hid (Blk w4 w3.heap.size ((Mc.stn m ws).take 0 ++ List.replicate (j - 0) 0)) := by
          show Blk _ _ _
          simpa using hB4.out
        have hb8 := Lib.hid hb7
        clear hB4 hb7
        go_wp2_with fail
        go_loopw [48] (fun v wr => ∃ s : Nat, s ≤ j ∧ v = .int .i64 s ∧ Hid (Blk wr w3.heap.size ((Mc.stn m ws).take s ++ List.replicate (j - s) 0)) ∧ Hid (Below w3.heap.size w3 wr)) (fun v _ => j - (intOf v).toNat)
        case atStart => exact ⟨0, Nat.zero_le _, rfl, hB5, hb8⟩
        case round =>
          clear hB5 hb8
          obtain ⟨s, hs, rfl, hB, hbr⟩ := hrel
          have hsl : (Mc.stn m ws).length = j := by rw [Mc.stn_len]; exact HN.out
          by_cases hsj : s < j
          · have hsj' : (s : Int) < j := by omega
            have hsN : s < m.r.length := by rw [HN.out]; exact hsj
            have hRw := hRs.out.below hbr.out
            obtain ⟨P, cp, hc, hrd⟩ := hRw.at_ (Mc.rsps_at ws hsN)
            rw [Mc.run_len, HKW.out] at hc
            obtain ⟨U, hU⟩ : ∃ U, wr.alloc (.cells #[.slice P kw cp] 29) = U := ⟨_, rfl⟩
            have hbU : Below wr.heap.size wr U := by rw [← hU]; exact (Below.refl _ _).alloc (Nat.le_refl _) _
            have hxU : U.cell? ⟨wr.heap.size, 0, none⟩ = some (.slice P kw cp) := by rw [← hU, World.cell?_alloc_at _ _ _ _ rfl]; rfl
            have hUs : wr.heap.size < U.heap.size := by rw [← hU]; simp
            have C3 := indexFunc_any g j wr.heap.size kw cp (Mc.rsps m ws) P (Mc.run m s ws) s U (hRw.below hbU) (by rw [Mc.rsps_len]; exact HN.out) (by omega) (fun r hr => by
              obtain ⟨q, _, rfl⟩ := List.mem_map.1 hr
              rw [Mc.run_len]; exact HKW.out) (hrd.below hbU) hxU hUs (by rw [Mc.run_len]; exact HKW.out) hkb (Mc.rsps_at ws hsN)
            obtain ⟨F, hF⟩ : ∃ F, Mc.fi (Mc.rsps m ws) (Mc.run m s ws) = F := ⟨_, rfl⟩
            rw [hF] at C3
            have hst : Hid ((Mc.stn m ws)[s]? = some (F : Int)) := by show _ = _; rw [Mc.stn_at ws hsN, hF]
            have HB := Lib.hid (hB.out.below hbU hB.out.lt)
            have HBR := Lib.hid (below_next hbr.out hbU)
            clear hRw hrd hxU hUs hF hB hbr hbU
            go_wp2_with fail
            try rw [hU]
            refine C3.mono ?_
            rintro e w5 ⟨rfl, hb9⟩
            have hB9 := HB.out.below hb9 HB.out.lt
            have hbr9 := below_next HBR.out hb9
            obtain ⟨z, hz, hfz, _⟩ := hB9.at_ (k := s) (by simp [hsl]; omega)
            have hBA := hB9.set_ s (F : Int)
            rw [fill_step hsl hsj hst.out] at hBA
            have HBA := Lib.hid hBA
            have HBB := Lib.hid (hbr9.setCell (p := ⟨w3.heap.size, s, none⟩) (Nat.le_refl _) (.int .i64 F))
            clear hBA hB9 hbr9 hb9 C3 HB HBR hst hU
            go_wp2_with fail
            go_roundw
            case rel => exact ⟨s + 1, by omega, by go_num, HBA, HBB⟩
            case measure => simp [intOf]; omega
          · obtain rfl : s = j := by omega
            have hsj' : ¬ (s : Int) < s := by omega
            have hS : Rd wr (some ⟨w3.heap.size, 0, none⟩) (Mc.stn m ws) := by
              have := hB.out.rd
              rwa [List.take_of_length_le (by rw [hsl]; exact Nat.le_refl _), Nat.sub_self, List.replicate_zero, List.append_nil] at this
            have C4 := of_in (some ⟨w3.heap.size, 0, none⟩) s (Mc.stn m ws) wr hS (by omega) (fun z hz => by have := Mc.stn_lt ws z hz; have := HN.out; exact ⟨by omega, by omega⟩)
            rw [hsl] at C4
            have hbE := Lib.hid (below_next hb6.out hbr.out)
            have HSL := Lib.hid hsl
            clear hB hbr hS hsl
            go_wp2_with fail
            refine C4.mono ?_
            rintro e w6 ⟨B, rfl, hrd, hbF⟩
            rw [M.ofL_len, HSL.out]
            have hbG := Lib.hid (below_next hbE.out hbF)
            have HRD := Lib.hid hrd
            go_wp2_with fail
            go_returns
            exact ⟨⟨B, rfl, HRD.out⟩, hbG.out⟩
      · have C2 := CB _ wr (HR.out.below hbr.out) hS (HW.out.below hbr.out) hE0
        have hne : (E != 0) = true := by simp [hE0]
        clear hB CB CK hS
        go_wp2_with fail
        clear x0 x1 x2
        refine C2.mono ?_
        rintro e w3 ⟨rfl, hb5⟩
        have hb6 := Lib.hid (below_next hbr.out hb5)
        go_wp2_with fail
        go_returns
        exact ⟨fun _ => rfl, fun h => absurd h hE0, hb6.out⟩
end
end Go.Proofs.Ytonnplhiaidjnaa
