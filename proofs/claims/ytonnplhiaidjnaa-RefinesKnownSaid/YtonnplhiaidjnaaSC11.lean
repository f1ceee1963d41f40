/-
  Contracts: classes.Close and its closure.
-/
import Derived.Test.YtonnplhiaidjnaaSkC
import Derived.StillTailTactics
namespace Go.Proofs.Ytonnplhiaidjnaa
open Go.RowKit

/-- A local variable in a block of its own. -/
def BoxS (w : World) (b : Nat) (t : TypeId) (v : Value) : Prop := w.heap[b]? = some (.cells #[v] t (0, 0))
section
variable {w w' : World} {b : Nat} {t : TypeId} {v : Value}
theorem BoxS.lt (h : BoxS w b t v) : b < w.heap.size := by
  rcases Nat.lt_or_ge b w.heap.size with hlt | hge
  · exact hlt
  · unfold BoxS at h; rw [Array.getElem?_eq_none hge] at h; cases h
theorem BoxS.cell (h : BoxS w b t v) : w.cell? ⟨b, 0, none⟩ = some v := by
  rw [cell_of_row w b 0 _ t (0, 0) h]; rfl
theorem BoxS.free (h : BoxS w b t v) : w.frozen? ⟨b, 0, none⟩ = false := by unfold BoxS at h; simp [World.frozen?, h]
theorem BoxS.kept {row : Option Nat} (h : BoxS w b t v) (hg : w.grownBy w' row) (hne : some b ≠ row) : BoxS w' b t v := (hg.block b h.lt hne).trans h
theorem BoxS.below {B : Nat} (h : BoxS w b t v) (hb : Below B w w') (hlt : b < B) : BoxS w' b t v := (hb.block b hlt).trans h
end

set_option maxRecDepth 100000 in
/-- The closure: where a number leads to. -/
theorem least_any (Bd g n c B : Nat) (d : List Int) (i : Nat) (w : World) (hd : w.cell? ⟨Bd, 0, none⟩ = some (.slice (some ⟨g, 0, none⟩) n c)) (hown : w.ownsRow B 3 1 (.slice (some ⟨g, 0, none⟩) n c) n (ints d)) (hD : M.Dn n d) (hi : i < n) (_hn : n ≤ 256) :
    Calls Try.prog 79 #[.int .i64 i, .pointer (some ⟨Bd, 0, none⟩)] w fun e w' => e = .returned (.int .i64 (M.root d i)) ∧ w' = w := by
  have HD := Lib.hid hD
  clear hD
  go_enter Try.func79, Try.ntmps79
  go_wp2
  go_loop [0] (fun v => ∃ k : Nat, k < n ∧ v = .int .i64 k ∧ Hid (M.root d k = M.root d i)) (fun v => (intOf v).toNat)
  case atStart => exact ⟨i, hi, rfl, rfl⟩
  case round =>
    obtain ⟨k, hk, rfl, hr⟩ := hrel
    obtain ⟨z, hc, _, hz⟩ := own_cl hown hk
    by_cases he : z = k
    · subst he
      have hf : Hid (M.root d i = k) := hr.out.symm.trans (M.root_self hz.out)
      clear hr
      go_wp2
      go_ret
      exact ⟨ret_int (by rw [hf.out]), rfl⟩
    · obtain ⟨h1, h2⟩ := M.root_down HD.out hk (by rw [hz.out]; exact he)
      have h0 := (HD.out.2 k hk).1
      rw [hz.out] at h1 h2 h0
      obtain ⟨u, rfl⟩ : ∃ u : Nat, z = u := ⟨z.toNat, by omega⟩
      rw [Int.toNat_natCast] at h1 h2
      have hne : ((u : Int) != (k : Int)) = true := by simpa using he
      have hr' : Hid (M.root d u = M.root d i) := h2.symm.trans hr.out
      clear hr h2
      go_wp2
      go_round
      case rel => exact ⟨u, by omega, rfl, hr'⟩
      case measure => simp [intOf] <;> omega

theorem take_set_snoc' {α : Type} (l : List α) (k : Nat) (x : α) (h : k < l.length) : (l.set k x).take (k + 1) = l.take k ++ [x] := by
  rw [List.take_add_one, List.getElem?_set_self h, List.take_set]
  congr 1
  exact List.set_eq_of_length_le (by rw [List.length_take]; omega)
namespace M
/-- A pair within bounds. -/
def okP (n : Int) (x : Int × Int) : Prop := 0 ≤ x.1 ∧ x.1 < n ∧ 0 ≤ x.2 ∧ x.2 < n
open Classical in
/-- What Close returns. -/
noncomputable def clE (n : Int) (ps : List (Int × Int)) : Int := if 256 < n then 3 else if n < 0 then 1 else if ∀ x ∈ ps, okP n x then 0 else 1
noncomputable def clV (n : Int) (ps : List (Int × Int)) : List Int := if clE n ps = 0 then close n.toNat (natP ps) else []
theorem clE_limit {n : Int} {ps : List (Int × Int)} (h : 256 < n) : clE n ps = 3 := by simp [clE, h]
theorem clE_arg {n : Int} {ps : List (Int × Int)} (h : ¬ 256 < n) (h1 : n < 0) : clE n ps = 1 := by simp [clE, h, h1]
theorem clE_pair {n : Int} {ps : List (Int × Int)} {k : Nat} {x : Int × Int} (h : ¬ 256 < n) (h1 : ¬ n < 0) (hk : ps[k]? = some x) (h2 : ¬ okP n x) : clE n ps = 1 := by
  unfold clE
  rw [if_neg h, if_neg h1, if_neg fun h3 => h2 (h3 x (List.mem_of_getElem? hk))]
theorem clE_ok {n : Int} {ps : List (Int × Int)} (h : ¬ 256 < n) (h1 : ¬ n < 0) (h2 : ∀ x ∈ ps, okP n x) : clE n ps = 0 := by
  unfold clE
  rw [if_neg h, if_neg h1, if_pos h2]
theorem clV_err {n : Int} {ps : List (Int × Int)} {e : Int} (h : clE n ps = e) (h0 : e ≠ 0) : clV n ps = [] := by simp [clV, h, h0]
theorem clV_ok {n : Int} {ps : List (Int × Int)} (h : clE n ps = 0) : clV n ps = close n.toNat (natP ps) := by simp [clV, h]
end M

set_option maxRecDepth 100000 in
set_option maxHeartbeats 2000000 in
theorem close_in (A : Option Addr) (c n : Nat) (ps : List (Int × Int)) (w : World) (h : RdQ w A ps) (hm : ps.length ≤ 1000000) (hn : n ≤ 256) :
    Calls Try.prog 59 #[.int .i64 n, .slice A ps.length c] w (Made w (M.clV n ps) (M.clE n ps)) := by
  go_enter Try.func59, Try.ntmps59
  go_wp2
  go_loopw [22] (fun i wr => ∃ k : Nat, k ≤ ps.length ∧ i = .int .i64 k ∧ Hid (∀ x ∈ ps.take k, M.okP n x) ∧ Below w.heap.size w wr) (fun i _ => ps.length - (intOf i).toNat)
  case atStart => exact ⟨0, Nat.zero_le _, rfl, by simp [Hid], Below.refl _ _⟩
  case round =>
    obtain ⟨k, hk, rfl, hok, hbr⟩ := hrel
    by_cases hlt : k < ps.length
    · obtain ⟨b, off, rfl⟩ := h.opn (by omega)
      obtain ⟨x, y, hb, hc1, hc2, hxy⟩ := (h.below hbr).cl hlt
      rcases Int.lt_trichotomy x y with hyx | hyx | hyx
      · by_cases h1 : x < 0
        · have hf : Hid (M.clE n ps = 1) := M.clE_pair (by omega) (by omega) hxy.out (by rintro ⟨q1, q2, q3, q4⟩; simp only at q1 q2 q3 q4; omega)
          go_wp2
          go_ret2
          exact Made.mk (M.clV_err hf.out (by omega)) hf.out rfl Rd.nil_ (hbr.alloc hbr.size _)
        · by_cases h2 : (n : Int) ≤ y
          · have hf : Hid (M.clE n ps = 1) := M.clE_pair (by omega) (by omega) hxy.out (by rintro ⟨q1, q2, q3, q4⟩; simp only at q1 q2 q3 q4; omega)
            go_wp2
            go_ret2
            exact Made.mk (M.clV_err hf.out (by omega)) hf.out rfl Rd.nil_ (hbr.alloc hbr.size _)
          · have hok' : Hid (∀ q ∈ ps.take (k + 1), M.okP n q) := by
              intro q hq
              rw [List.take_add_one, hxy.out] at hq
              rcases List.mem_append.1 hq with hq | hq
              · exact hok.out q hq
              · obtain rfl : q = _ := by simpa using hq
                exact ⟨by simp only; omega, by simp only; omega, by simp only; omega, by simp only; omega⟩
            clear hok
            go_wp2
            go_roundw
            case rel => exact ⟨k + 1, by omega, by go_num, hok', hbr.alloc hbr.size _⟩
            case measure => simp [intOf] <;> omega
      · subst hyx
        by_cases h1 : x < 0
        · have hf : Hid (M.clE n ps = 1) := M.clE_pair (by omega) (by omega) hxy.out (by rintro ⟨q1, q2, q3, q4⟩; simp only at q1 q2 q3 q4; omega)
          go_wp2
          go_ret2
          exact Made.mk (M.clV_err hf.out (by omega)) hf.out rfl Rd.nil_ (hbr.alloc hbr.size _)
        · by_cases h2 : (n : Int) ≤ x
          · have hf : Hid (M.clE n ps = 1) := M.clE_pair (by omega) (by omega) hxy.out (by rintro ⟨q1, q2, q3, q4⟩; simp only at q1 q2 q3 q4; omega)
            go_wp2
            go_ret2
            exact Made.mk (M.clV_err hf.out (by omega)) hf.out rfl Rd.nil_ (hbr.alloc hbr.size _)
          · have hok' : Hid (∀ q ∈ ps.take (k + 1), M.okP n q) := by
              intro q hq
              rw [List.take_add_one, hxy.out] at hq
              rcases List.mem_append.1 hq with hq | hq
              · exact hok.out q hq
              · obtain rfl : q = _ := by simpa using hq
                exact ⟨by simp only; omega, by simp only; omega, by simp only; omega, by simp only; omega⟩
            clear hok
            go_wp2
            go_roundw
            case rel => exact ⟨k + 1, by omega, by go_num, hok', hbr.alloc hbr.size _⟩
            case measure => simp [intOf] <;> omega
      · by_cases h1 : y < 0
        · have hf : Hid (M.clE n ps = 1) := M.clE_pair (by omega) (by omega) hxy.out (by rintro ⟨q1, q2, q3, q4⟩; simp only at q1 q2 q3 q4; omega)
          go_wp2
          go_ret2
          exact Made.mk (M.clV_err hf.out (by omega)) hf.out rfl Rd.nil_ (hbr.alloc hbr.size _)
        · by_cases h2 : (n : Int) ≤ x
          · have hf : Hid (M.clE n ps = 1) := M.clE_pair (by omega) (by omega) hxy.out (by rintro ⟨q1, q2, q3, q4⟩; simp only at q1 q2 q3 q4; omega)
            go_wp2
            go_ret2
            exact Made.mk (M.clV_err hf.out (by omega)) hf.out rfl Rd.nil_ (hbr.alloc hbr.size _)
          · have hok' : Hid (∀ q ∈ ps.take (k + 1), M.okP n q) := by
              intro q hq
              rw [List.take_add_one, hxy.out] at hq
              rcases List.mem_append.1 hq with hq | hq
              · exact hok.out q hq
              · obtain rfl : q = _ := by simpa using hq
                exact ⟨by simp only; omega, by simp only; omega, by simp only; omega, by simp only; omega⟩
            clear hok
            go_wp2
            go_roundw
            case rel => exact ⟨k + 1, by omega, by go_num, hok', hbr.alloc hbr.size _⟩
            case measure => simp [intOf] <;> omega
    · have : k = ps.length := by omega
      subst this
      have HI : Hid (InP n ps) := by
        intro x hx
        have := hok.out x (by rw [List.take_of_length_le (Nat.le_refl _)]; exact hx)
        exact ⟨this.1, this.2.1, this.2.2.1, this.2.2.2⟩
      have hf : Hid (M.clE n ps = 0) := M.clE_ok (by omega) (by omega) (fun x hx => by have := HI.out x hx; exact ⟨this.1, this.2.1, this.2.2.1, this.2.2.2⟩)
      clear hok
      go_wp2_with (refine wpList_make_ints _ rfl _ _ rfl _ n rfl rfl rfl (by omega) ?_)
      intro w1 hB1 hb1
      go_wp2
      have hs1 := hb1.size
      have hsr := hbr.size
      obtain ⟨Bd, hBd⟩ : ∃ Bd, w1.heap.size = Bd := ⟨_, rfl⟩
      obtain ⟨g, hg⟩ : ∃ g, wr.heap.size = g := ⟨_, rfl⟩
      have hgl := hB1.out.lt
      have hbox : BoxS (w1.alloc (.cells #[.slice (some ⟨g, 0, none⟩) n n] 29)) Bd 29 (.slice (some ⟨g, 0, none⟩) n n) := by
        rw [← hBd]
        exact heap_alloc_new w1 _
      have hown0 := (hB1.out.own (B := w.heap.size) (n := n) hsr (by simp) (by unfold maxLen; omega)).alloc (.cells #[.slice (some ⟨g, 0, none⟩) n n] 29)
      have hbr0 : Below w.heap.size w (w1.alloc (.cells #[.slice (some ⟨g, 0, none⟩) n n] 29)) := (hbr.trans (hb1.mono hsr)).alloc (by omega) _
      have hgB : w.heap.size ≤ g := by omega
      have hgd : g < Bd := by omega
      rw [hg] at hown0
      try rw [hg]
      try rw [hBd]
      generalize w1.alloc (.cells #[.slice (some ⟨g, 0, none⟩) n n] 29) = w2 at hbox hown0 hbr0 ⊢
      obtain ⟨cur0, hcur0⟩ : ∃ cur0, List.replicate n (0 : Int) = cur0 := ⟨_, rfl⟩
      rw [hcur0] at hown0
      have hc0 := hbox.cell
      clear hB1 hb1 hs1 hsr hBd hg hgl hcur0 hbr
      go_wp2
      go_loopw [46] (fun i wq => ∃ (k : Nat) (cur : List Int), k ≤ n ∧ i = .int .i64 k ∧ BoxS wq Bd 29 (.slice (some ⟨g, 0, none⟩) n n) ∧ wq.ownsRow w.heap.size 3 1 (.slice (some ⟨g, 0, none⟩) n n) n (ints cur) ∧ Hid (cur.take k = M.iota k) ∧ Below w.heap.size w wq) (fun i _ => n - (intOf i).toNat)
      case atStart => exact ⟨0, cur0, Nat.zero_le _, rfl, hbox, hown0, by simp [Hid, M.iota], hbr0⟩
      case round =>
        clear hbox hown0 hbr0 hc0
        obtain ⟨k, cur, hk, rfl, hbox, hown, hC, hbr⟩ := hrel
        have hcb := hbox.cell
        by_cases hkn : k < n
        · obtain ⟨x, hcx, hfx, _⟩ := own_cl hown hkn
          have hcl := own_len hown
          have hC' : Hid ((cur.set k (k : Int)).take (k + 1) = M.iota (k + 1)) := by
            rw [Hid, take_set_snoc' _ _ _ (by omega), hC.out, M.iota_snoc]
          clear hC
          go_wp2
          go_roundw
          case rel => exact ⟨k + 1, _, by omega, by go_num, hbox.kept (own_grown hown k _) (by simp; omega), own_set hown k _, hC', hbr.setCell hgB _⟩
          case measure => simp [intOf] <;> omega
        · have : k = n := by omega
          subst this
          have hcl := own_len hown
          have hU0 : Hid (M.Uf k ((natP ps).take 0) cur) := by
            have : cur = M.iota k := by have := hC.out; rwa [List.take_of_length_le (by omega)] at this
            rw [this]
            exact M.Uf.start k
          clear hC
          go_wp2
          go_loopw [57] (fun i wq => ∃ (t : Nat) (d : List Int), t ≤ ps.length ∧ i = .int .i64 t ∧ BoxS wq Bd 29 (.slice (some ⟨g, 0, none⟩) k k) ∧ wq.ownsRow w.heap.size 3 1 (.slice (some ⟨g, 0, none⟩) k k) k (ints d) ∧ Hid (M.Uf k ((natP ps).take t) d) ∧ Below w.heap.size w wq) (fun i _ => ps.length - (intOf i).toNat)
          case atStart => exact ⟨0, cur, Nat.zero_le _, rfl, hbox, hown, hU0, hbr⟩
          case round =>
            clear hbox hown hU0 hbr hcb hcl
            obtain ⟨t, d, ht, rfl, hbox, hown, hU, hbr⟩ := hrel
            by_cases htl : t < ps.length
            · obtain ⟨b, off, rfl⟩ := h.opn (by omega)
              obtain ⟨x, y, hb, hc1, hc2, hxy⟩ := (h.below hbr).cl htl
              obtain ⟨i, j, rfl, rfl, hi, hj, hij⟩ := HI.out.at_ hxy.out
              have HJ := Lib.hid hij
              have hU' := Lib.hid (hU.out.step (fun q hq => HI.out.rng q (List.mem_of_mem_take hq)) hi hj)
              have hri := M.root_le d i
              have hrj := M.root_le d j
              have HN := Lib.hid hU.out.dn
              have hbox' : BoxS (wr.alloc (.cells #[.int .i64 i, .int .i64 j] 42)) Bd 29 (.slice (some ⟨g, 0, none⟩) k k) := hbox.kept (World.grownBy_alloc wr _ none) (by simp)
              have hcb := hbox'.cell
              have hown' := hown.alloc (.cells #[.int .i64 i, .int .i64 j] 42)
              have hbr' : Below w.heap.size w (wr.alloc (.cells #[.int .i64 i, .int .i64 j] 42)) := hbr.alloc hbr.size _
              clear hij hxy hU hbox hown
              obtain ⟨u, hu⟩ : ∃ u, M.root d i = u := ⟨_, rfl⟩
              obtain ⟨v, hv⟩ : ∃ v, M.root d j = v := ⟨_, rfl⟩
              have L1 : ∀ m, Calls Try.prog 79 #[.int .i64 i, .pointer (some ⟨Bd, 0, none⟩)] ((wr.alloc (.cells #[.int .i64 i, .int .i64 j] 42)).drewN m) fun e w' => e = .returned (.int .i64 u) ∧ w' = (wr.alloc (.cells #[.int .i64 i, .int .i64 j] 42)).drewN m := fun m => by
                rw [← hu]
                exact least_any Bd g k k w.heap.size d i _ hcb hown' HN.out hi hn
              have L2 : ∀ m, Calls Try.prog 79 #[.int .i64 j, .pointer (some ⟨Bd, 0, none⟩)] ((wr.alloc (.cells #[.int .i64 i, .int .i64 j] 42)).drewN m) fun e w' => e = .returned (.int .i64 v) ∧ w' = (wr.alloc (.cells #[.int .i64 i, .int .i64 j] 42)).drewN m := fun m => by
                rw [← hv]
                exact least_any Bd g k k w.heap.size d j _ hcb hown' HN.out hj hn
              rw [hu] at hri hU'
              rw [hv] at hrj hU'
              have K1 := Lib.hid L1
              have K2 := Lib.hid L2
              clear L1 L2 hu hv HN
              have et : (natP ps).take (t + 1) = (natP ps).take t ++ [(i, j)] := by rw [List.take_add_one, HJ.out]; rfl
              rw [← et] at hU'
              clear et
              rcases Nat.lt_trichotomy u v with huv | huv | huv
              · rw [Nat.max_eq_right (by omega), Nat.min_eq_left (by omega)] at hU'
                obtain ⟨z, hcz, hfz, _⟩ := own_cl hown' (k := v) (by omega)
                have huvi : (u : Int) < v := by omega
                go_wp2
                go_quiet (first | (go_at_call_of 79 (Value.int .i64 i); refine Calls.quiet_of_same (K1.out _)) | (go_at_call_of 79 (Value.int .i64 j); refine Calls.quiet_of_same (K2.out _)))
                go_wp2
                go_roundw
                case rel => exact ⟨t + 1, _, by omega, by go_num, BoxS.kept (w := (wr.alloc (.cells #[.int .i64 i, .int .i64 j] 42)).drewN nq) hbox' (own_grown (w := (wr.alloc (.cells #[.int .i64 i, .int .i64 j] 42)).drewN nq) hown' v u) (by simp; omega), own_set (w := (wr.alloc (.cells #[.int .i64 i, .int .i64 j] 42)).drewN nq) hown' v u, hU', (below_drewN' hbr' nq).setCell hgB _⟩
                case measure => simp [intOf] <;> omega
              · subst huv
                rw [Nat.max_self, Nat.min_self] at hU'
                obtain ⟨z, hcz, hfz, _⟩ := own_cl hown' (k := u) (by omega)
                go_wp2
                go_quiet (first | (go_at_call_of 79 (Value.int .i64 i); refine Calls.quiet_of_same (K1.out _)) | (go_at_call_of 79 (Value.int .i64 j); refine Calls.quiet_of_same (K2.out _)))
                go_wp2
                go_roundw
                case rel => exact ⟨t + 1, _, by omega, by go_num, BoxS.kept (w := (wr.alloc (.cells #[.int .i64 i, .int .i64 j] 42)).drewN nq) hbox' (own_grown (w := (wr.alloc (.cells #[.int .i64 i, .int .i64 j] 42)).drewN nq) hown' u u) (by simp; omega), own_set (w := (wr.alloc (.cells #[.int .i64 i, .int .i64 j] 42)).drewN nq) hown' u u, hU', (below_drewN' hbr' nq).setCell hgB _⟩
                case measure => simp [intOf] <;> omega
              · rw [Nat.max_eq_left (by omega), Nat.min_eq_right (by omega)] at hU'
                obtain ⟨z, hcz, hfz, _⟩ := own_cl hown' (k := u) (by omega)
                have huvi : (v : Int) < u := by omega
                go_wp2
                go_quiet (first | (go_at_call_of 79 (Value.int .i64 i); refine Calls.quiet_of_same (K1.out _)) | (go_at_call_of 79 (Value.int .i64 j); refine Calls.quiet_of_same (K2.out _)))
                go_wp2
                go_roundw
                case rel => exact ⟨t + 1, _, by omega, by go_num, BoxS.kept (w := (wr.alloc (.cells #[.int .i64 i, .int .i64 j] 42)).drewN nq) hbox' (own_grown (w := (wr.alloc (.cells #[.int .i64 i, .int .i64 j] 42)).drewN nq) hown' u v) (by simp; omega), own_set (w := (wr.alloc (.cells #[.int .i64 i, .int .i64 j] 42)).drewN nq) hown' u v, hU', (below_drewN' hbr' nq).setCell hgB _⟩
                case measure => simp [intOf] <;> omega
            · have : t = ps.length := by omega
              subst this
              have hU2 : M.Uf k (natP ps) d := by
                have := hU.out
                rwa [List.take_of_length_le (by rw [natP_len]; omega)] at this
              have HU := Lib.hid hU2
              have hZ0 : Hid (M.Uz k d d 0) := M.Uz.start hU2.dn
              have hcb := hbox.cell
              clear hU hU2
              go_wp2
              go_loopw [80] (fun i wq => ∃ (s : Nat) (e : List Int), s ≤ k ∧ i = .int .i64 s ∧ BoxS wq Bd 29 (.slice (some ⟨g, 0, none⟩) k k) ∧ wq.ownsRow w.heap.size 3 1 (.slice (some ⟨g, 0, none⟩) k k) k (ints e) ∧ Hid (M.Uz k d e s) ∧ Below w.heap.size w wq) (fun i _ => k - (intOf i).toNat)
              case atStart => exact ⟨0, d, Nat.zero_le _, rfl, hbox, hown, hZ0, hbr⟩
              case round =>
                clear hbox hown hZ0 hbr hcb
                obtain ⟨s, e, hs, rfl, hbox, hown, hZ, hbr⟩ := hrel
                have hcb := hbox.cell
                by_cases hsk : s < k
                · have hZ' := Lib.hid (hZ.out.step hsk)
                  have L1 := least_any Bd g k k w.heap.size e s wr.drew hcb hown hZ.out.dn hsk hn
                  obtain ⟨x, hcx, hfx, _⟩ := own_cl hown hsk
                  obtain ⟨u, hu⟩ : ∃ u, M.root e s = u := ⟨_, rfl⟩
                  rw [hu] at L1 hZ'
                  clear hZ hu
                  go_wp2_with fail
                  refine wp_region_still_tail 6 (by kernel_rfl) (by kernel_rfl) ?_
                  simp only [List.take_succ_cons, List.take_zero, List.drop_succ_cons, List.drop_zero]
                  repeat still_step
                  still_call L1
                  repeat still_step
                  refine wpStill_nil ?_
                  change wpList _ _ _ _ _ wr.drew
                  go_wp2
                  go_roundw
                  case rel => exact ⟨s + 1, _, by omega, by go_num, BoxS.kept (w := wr.drew) hbox (own_grown (w := wr.drew) hown s u) (by simp; omega), own_set (w := wr.drew) hown s u, hZ', (below_drewN' hbr 1).setCell hgB _⟩
                  case measure => simp [intOf] <;> omega
                · have : s = k := by omega
                  subst this
                  have hfin : M.ofL e = M.close s (natP ps) := hZ.out.fin HU.out HI.out.rng
                  have hcl := own_len hown
                  have hv : M.I64 e := by
                    intro z hz
                    obtain ⟨i, hi, rfl⟩ := M.mem_gz hz
                    have := hZ.out.dn.2 i (by omega)
                    omega
                  have C := of_at (some ⟨g, 0, none⟩) s s e wr (Rd.of_own hown) hcl hn hv
                  rw [hfin] at C
                  clear hZ hv hfin
                  go_wp2_with fail
                  refine C.mono ?_
                  rintro e2 w4 ⟨A4, rfl, hr4, hb4⟩
                  go_wp2
                  go_ret2
                  exact Made.mk (by rw [M.clV_ok hf.out, Int.toNat_natCast]) hf.out rfl hr4 (below_next hbr hb4)

theorem close_any (A : Option Addr) (c : Nat) (n : Int) (ps : List (Int × Int)) (w : World) (h : RdQ w A ps) (hm : ps.length ≤ 1000000) :
    Calls Try.prog 59 #[.int .i64 n, .slice A ps.length c] w (Made w (M.clV n ps) (M.clE n ps)) := by
  by_cases h1 : 256 < n
  · have hf : Hid (M.clE n ps = 3) := M.clE_limit h1
    go_enter Try.func59, Try.ntmps59
    go_wp2
    go_ret2
    exact Made.mk (M.clV_err hf.out (by omega)) hf.out rfl Rd.nil_ (Below.refl _ _)
  · by_cases h2 : n < 0
    · have hf : Hid (M.clE n ps = 1) := M.clE_arg h1 h2
      go_enter Try.func59, Try.ntmps59
      go_wp2
      go_ret2
      exact Made.mk (M.clV_err hf.out (by omega)) hf.out rfl Rd.nil_ (Below.refl _ _)
    · obtain ⟨k, rfl⟩ : ∃ k : Nat, n = k := ⟨n.toNat, by omega⟩
      exact close_in A c k ps w h hm (by omega)
end Go.Proofs.Ytonnplhiaidjnaa
