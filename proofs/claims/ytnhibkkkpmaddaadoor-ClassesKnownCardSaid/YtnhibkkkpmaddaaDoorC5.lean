/-
  Contracts: lists of pairs that are built; the reference's Join.
-/
import Derived.Test.YtnhibkkkpmaddaaDoorC4
namespace Go.Proofs.YtnhibkkkpmaddaaDoor
open Go.RowKit

theorem pair_info : (Tryd.prog.info? 45).map (fun i => (i.zero, i.size, i.bytes)) = some (some (.agg #[.int .i64 0, .int .i64 0]), 2, 16) := by kernel_rfl
/-- The cells of a list of pairs. -/
def pcells (ps : List (Int × Int)) : List Value := ps.flatMap fun x => [.int .i64 x.1, .int .i64 x.2]
theorem pcells_len (ps : List (Int × Int)) : (pcells ps).length = ps.length * 2 := by
  induction ps with
  | nil => rfl
  | cons x ps ih => simp [pcells] at ih ⊢; omega
theorem pcells_snoc (ps : List (Int × Int)) (x : Int × Int) : pcells (ps ++ [x]) = pcells ps ++ [.int .i64 x.1, .int .i64 x.2] := by simp [pcells]
theorem pcells_app (x y : List (Int × Int)) : pcells (x ++ y) = pcells x ++ pcells y := by simp [pcells]
theorem pcells_at : ∀ (ps : List (Int × Int)) (k : Nat), k < ps.length → (pcells ps)[k * 2]? = some (.int .i64 (ps[k]?.getD (0, 0)).1) ∧ (pcells ps)[k * 2 + 1]? = some (.int .i64 (ps[k]?.getD (0, 0)).2)
  | [], k, h => absurd h (by simp)
  | x :: ps, 0, _ => by simp [pcells]
  | x :: ps, k + 1, h => by
    have ih := pcells_at ps k (by simpa using h)
    have e : pcells (x :: ps) = .int .i64 x.1 :: .int .i64 x.2 :: pcells ps := by simp [pcells]
    have e1 : (k + 1) * 2 = k * 2 + 1 + 1 := by omega
    rw [e, e1, List.getElem?_cons_succ, List.getElem?_cons_succ, List.getElem?_cons_succ, List.getElem?_cons_succ, List.getElem?_cons_succ]
    exact ih
def OwnP (w : World) (B : Nat) (v : Value) (m : Nat) (ps : List (Int × Int)) : Prop := w.ownsRow B 45 2 v m (pcells ps)
section
variable {w w' : World} {B m : Nat} {v : Value} {ps : List (Int × Int)}
theorem OwnP.len (h : OwnP w B v m ps) : ps.length = m := by have := h.1; rw [pcells_len] at this; omega
theorem OwnP.rd {A : Option Addr} {c : Nat} (h : OwnP w B (.slice A m c) m ps) : RdP w A ps := fun hp => by
  have hm := h.len
  obtain ⟨g, cap, e, _, hl⟩ := World.ownsRow.form h (by omega)
  injection e with e
  subst e
  refine ⟨g, 0, rfl, hl, fun k hk => ?_⟩
  have := pcells_at ps k hk
  have e1 := World.ownsRow.cellAt h (k * 2) (by omega)
  have e2 := World.ownsRow.cellAt h (k * 2 + 1) (by omega)
  rw [Nat.zero_add]
  exact ⟨e1.trans this.1, e2.trans this.2⟩
theorem OwnP.form (h : OwnP w B v m ps) : ∃ A c, v = .slice A m c ∧ m ≤ c ∧ (0 < m → A ≠ none) := by
  rcases h.2 with ⟨rfl, h0⟩ | ⟨g, cap, cur, rfl, _, _, hc, _⟩
  · exact ⟨none, 0, by rw [h0], by omega, fun h1 => by omega⟩
  · exact ⟨_, _, rfl, hc, fun _ h => by cases h⟩
theorem OwnP.dr (h : OwnP w B v m ps) (n : Nat) (o : Obj) : ((w.drewN n).alloc o).ownsRow B 45 2 v m (pcells ps) := World.ownsRow.alloc (w := w.drewN n) h o
theorem ownP_step {w wr w1 : World} {B m : Nat} {v v1 : Value} {ps : List (Int × Int)} {x y : Int} {o : Obj} (hbr : Below B w wr) (hB : B ≤ wr.heap.size) (hown : OwnP wr B v m ps)
    (h1 : w1.ownsRow B 45 2 v1 (m + 1) (pcells ps ++ [.int .i64 x, .int .i64 y])) (hg : (wr.alloc o).grownBy w1 v.ownBlock) :
    OwnP w1 B v1 (m + 1) (ps ++ [(x, y)]) ∧ Below B w w1 :=
  ⟨by unfold OwnP; rw [pcells_snoc]; exact h1, (hbr.alloc hB o).grown hg (by simp; omega) (fun j hj => (hown.lt j hj).1)⟩
end
def intP (ps : List (Nat × Nat)) : List (Int × Int) := ps.map fun x => ((x.1 : Int), (x.2 : Int))
theorem natP_intP (ps : List (Nat × Nat)) : natP (intP ps) = ps := by simp [natP, intP, Function.comp_def]
theorem intP_len (ps : List (Nat × Nat)) : (intP ps).length = ps.length := by simp [intP]
theorem intP_snoc (ps : List (Nat × Nat)) (a b : Nat) : intP (ps ++ [(a, b)]) = intP ps ++ [((a : Int), (b : Int))] := by simp [intP]
theorem InP.of_rng {n : Nat} {ps : List (Nat × Nat)} (h : M.Rng n ps) : InP n (intP ps) := by
  intro x hx
  obtain ⟨y, hy, rfl⟩ := List.mem_map.1 hx
  have := h y hy
  simp only
  omega
/-- The cells of a new block of a pair. -/
theorem cell_pair_new (w : World) (x y : Value) (t : TypeId) : ∀ j u, [x, y][j]? = some u → (w.alloc (.cells #[x, y] t)).cell? ((⟨w.heap.size, 0, none⟩ : Addr).add j) = some u := by
  intro j u hj
  match j, hj with
  | 0, hj => simp at hj; subst hj; simp [Addr.add]
  | 1, hj => simp at hj; subst hj; simp [Addr.add]

theorem rclose_at (A : Option Addr) (c n m : Nat) (ps : List (Int × Int)) (w : World) (h : RdP w A ps) (e : ps.length = m) (hn : n ≤ 256) (hm : m ≤ 1000000) (hi : InP n ps) :
    Calls Tryd.prog 24 #[.int .i64 n, .slice A m c] w (Built w (M.close n (natP ps))) := by
  subst e
  exact rclose_any A c n ps w h hn hm hi

set_option maxRecDepth 100000 in
set_option maxHeartbeats 1000000 in
theorem rjoin_any (A B : Option Addr) (c d : Nat) (p q : List Int) (w : World) (hp : Rd w A p) (hq : Rd w B q) (he : p.length = q.length) (h1 : p.length ≤ 256) :
    Calls Tryd.prog 28 #[.slice A p.length c, .slice B q.length d] w (Built w (M.pjoin p q)) := by
  have HE := Lib.hid he
  clear he
  obtain ⟨i0, hi0, hz0, hz1, hz2⟩ := info_parts pair_info
  go_enter Tryd.func28, Tryd.ntmps28
  go_wp2
  go_loopw [5, 6] (fun v i wr => ∃ (k m : Nat) (ps : List (Nat × Nat)) (A2 : Option Addr) (c2 : Nat), k ≤ p.length ∧ i = .int .i64 k ∧ v = .slice A2 m c2 ∧ m ≤ k * 300 ∧ OwnP wr w.heap.size (.slice A2 m c2) m (intP ps) ∧ Hid (ps = M.rp p q k) ∧ Below w.heap.size w wr) (fun _ i _ => p.length - (intOf i).toNat)
  case atStart => exact ⟨0, 0, [], none, 0, Nat.zero_le _, rfl, rfl, by omega, World.ownsRow_nil w _ _ _, (M.rp_zero _ _).symm, Below.refl _ _⟩
  case round =>
    obtain ⟨k, m, ps, A2, c2, hk, rfl, rfl, hm, hown, hps, hbr⟩ := hrel
    by_cases hlt : k < p.length
    · obtain ⟨b, off, rfl⟩ := hp.opn (by omega)
      obtain ⟨b2, off2, rfl⟩ := hq.opn (by have := HE.out; omega)
      go_wp2
      go_loopw [5, 7] (fun v i wq => ∃ (s m : Nat) (qs : List (Nat × Nat)) (A2 : Option Addr) (c2 : Nat), s ≤ k ∧ i = .int .i64 s ∧ v = .slice A2 m c2 ∧ m ≤ k * 300 + s ∧ OwnP wq w.heap.size (.slice A2 m c2) m (intP qs) ∧ Hid (qs = M.rp p q k ++ M.rpRow p q k s) ∧ Below w.heap.size w wq) (fun _ i _ => k - (intOf i).toNat)
      case atStart => exact ⟨0, m, ps, A2, c2, Nat.zero_le _, rfl, rfl, by omega, hown, by rw [Hid, M.rpRow_zero, List.append_nil]; exact hps.out, hbr⟩
      case round =>
        clear hown hps hbr hm
        obtain ⟨s, m, qs, A2, c2, hs, rfl, rfl, hm, hown, hqs, hbr⟩ := hrel
        have hsz := hbr.size
        by_cases hsk : s < k
        · obtain ⟨x, hb, hc, hx⟩ := (hp.below hbr).cl hlt
          obtain ⟨y, _, hc2, hy⟩ := (hp.below hbr).cl (k := s) (by omega)
          obtain ⟨u, hb2, hc3, hu⟩ := (hq.below hbr).cl (k := k) (by have := HE.out; omega)
          obtain ⟨v, _, hc4, hv⟩ := (hq.below hbr).cl (k := s) (by have := HE.out; omega)
          have hsl : s < p.length := by omega
          have hkq : (k : Int) < q.length := by have := HE.out; omega
          have hsq : (s : Int) < q.length := by have := HE.out; omega
          by_cases hxy : x = y
          · subst hxy
            have hqs' : Hid (qs ++ [(s, k)] = M.rp p q k ++ M.rpRow p q k (s + 1)) := by
              rw [Hid, M.rpRow_yes (by rw [hx.out, hy.out, hu.out, hv.out]; exact .inl rfl), hqs.out, List.append_assoc]
            clear hqs
            go_wp2
            go_quiet (fail)
            go_wp2_with (at_builtin; refine wpList_append_own _ rfl _ _ 43 rfl w.heap.size 45 i0 (.agg #[.int .i64 0, .int .i64 0]) 2 16 Tryd.underlying43 hi0 hz0 hz1 hz2 rfl (by decide) _ _ _ rfl (hown.dr _ _) ⟨wr.heap.size, 0, none⟩ 1 1 [.int .i64 s, .int .i64 k] rfl rfl (cell_pair_new _ _ _ _) (by intro u hu; simp at hu; rcases hu with rfl | rfl <;> rfl) (by unfold maxLen; omega) (by omega) (by simp; omega) ?_; intro v1 w1 hown1 hg1 _)
            obtain ⟨hown2, hbr2⟩ := ownP_step (below_drewN' hbr _) hsz hown hown1 hg1
            obtain ⟨A3, c3, rfl, _, _⟩ := hown2.form
            rw [← intP_snoc] at hown2
            clear hown1 hg1 hown
            go_wp2
            go_roundw
            case rel => exact ⟨s + 1, m + 1, _, A3, c3, by omega, by go_num, rfl, by omega, hown2, hqs', hbr2⟩
            case measure => simp [intOf] <;> omega
          · have hne : (x == y) = false := by simpa using hxy
            by_cases huv : u = v
            · subst huv
              have hqs' : Hid (qs ++ [(s, k)] = M.rp p q k ++ M.rpRow p q k (s + 1)) := by
                rw [Hid, M.rpRow_yes (by rw [hx.out, hy.out, hu.out, hv.out]; exact .inr rfl), hqs.out, List.append_assoc]
              clear hqs
              go_wp2
              go_quiet (fail)
              go_wp2_with (at_builtin; refine wpList_append_own _ rfl _ _ 43 rfl w.heap.size 45 i0 (.agg #[.int .i64 0, .int .i64 0]) 2 16 Tryd.underlying43 hi0 hz0 hz1 hz2 rfl (by decide) _ _ _ rfl (hown.dr _ _) ⟨wr.heap.size, 0, none⟩ 1 1 [.int .i64 s, .int .i64 k] rfl rfl (cell_pair_new _ _ _ _) (by intro u hu; simp at hu; rcases hu with rfl | rfl <;> rfl) (by unfold maxLen; omega) (by omega) (by simp; omega) ?_; intro v1 w1 hown1 hg1 _)
              obtain ⟨hown2, hbr2⟩ := ownP_step (below_drewN' hbr _) hsz hown hown1 hg1
              obtain ⟨A3, c3, rfl, _, _⟩ := hown2.form
              rw [← intP_snoc] at hown2
              clear hown1 hg1 hown
              go_wp2
              go_roundw
              case rel => exact ⟨s + 1, m + 1, _, A3, c3, by omega, by go_num, rfl, by omega, hown2, hqs', hbr2⟩
              case measure => simp [intOf] <;> omega
            · have hne2 : (u == v) = false := by simpa using huv
              have hqs' : Hid (qs = M.rp p q k ++ M.rpRow p q k (s + 1)) := by
                rw [Hid, M.rpRow_no (by rw [hx.out, hy.out, hu.out, hv.out]; intro h; exact h.elim hxy huv)]
                exact hqs.out
              clear hqs
              go_wp2
              go_quiet (fail)
              go_wp2
              go_roundw
              case rel => exact ⟨s + 1, m, qs, A2, c2, by omega, by go_num, rfl, by omega, hown, hqs', below_drewN' hbr _⟩
              case measure => simp [intOf] <;> omega
        · have : s = k := by omega
          subst this
          have hqs' : Hid (qs = M.rp p q (s + 1)) := by rw [Hid, M.rp_succ]; exact hqs.out
          clear hqs
          go_wp2
          go_roundw
          case rel => exact ⟨s + 1, m, qs, A2, c2, by omega, by go_num, rfl, by omega, hown, hqs', hbr⟩
          case measure => simp [intOf] <;> omega
    · have : k = p.length := by omega
      subst this
      have hc := rclose_at A2 c2 p.length m (intP ps) wr hown.rd hown.len h1 (by omega) (InP.of_rng (by rw [hps.out]; exact M.rp_rng _ _ _))
      rw [natP_intP, hps.out] at hc
      have hc : Calls Tryd.prog 24 #[.int .i64 p.length, .slice A2 m c2] wr (Built wr (M.pjoin p q)) := hc
      go_wp2_with fail
      refine hc.mono ?_
      rintro e w1 ⟨A3, c3, rfl, hr3, hc3, hb3⟩
      go_wp2
      go_ret
      exact ⟨A3, c3, rfl, hr3, hc3, below_next hbr hb3⟩
end Go.Proofs.YtnhibkkkpmaddaaDoor
