/-
  Several texts in one: KnC, QR. No statement is proved here.
-/
import Derived.Test.YtnodnfailjmpeaaRbZ
import Derived.Test.YtnodnfailjmpeaaQnI
namespace Go.Proofs.Ytnodnfailjmpeaa
open Go.RowKit
open Mc (Ed Ma)

/-! ### Numbers that the call itself gathers -/
def u16s (zs : List Int) : List Value := zs.map (Value.int .u16)
theorem u16s_len (zs : List Int) : (u16s zs).length = zs.length := by simp [u16s]
theorem u16s_snoc (zs : List Int) (z : Int) : u16s zs ++ [.int .u16 z] = u16s (zs ++ [z]) := by simp [u16s]
def u8s (zs : List Int) : List Value := zs.map (Value.int .u8)
theorem u8s_len (zs : List Int) : (u8s zs).length = zs.length := by simp [u8s]
theorem u8s_snoc (zs : List Int) (z : Int) : u8s zs ++ [.int .u8 z] = u8s (zs ++ [z]) := by simp [u8s]
theorem u16_info : (Try.prog.info? 37).map (fun i => (i.zero, i.size, i.bytes)) = some (some (.int .u16 0), 1, 2) := by kernel_rfl
theorem u8_info : (Try.prog.info? 5).map (fun i => (i.zero, i.size, i.bytes)) = some (some (.int .u8 0), 1, 1) := by kernel_rfl
theorem Rd16.of_own {w : World} {base : Nat} {A : Option Addr} {n c : Nat} {zs : List Int} (h : w.ownsRow base 37 1 (.slice A n c) n (u16s zs)) (hz : ∀ z ∈ zs, 0 ≤ z ∧ z ≤ 65535) : Rd16 w A zs := fun hp => by
  have hn : zs.length = n := by have := h.1; rw [u16s_len] at this; omega
  obtain ⟨g, cap, hv, _, hlt⟩ := h.form (by omega)
  have hA : A = some ⟨g, 0, none⟩ := by injection hv
  subst hA
  refine ⟨g, 0, rfl, hlt, fun k z hk => ⟨?_, hz z (List.mem_of_getElem? hk)⟩⟩
  have := h.cells (g := g) rfl k (.int .u16 z) (by simp [u16s, hk])
  rw [Nat.zero_add]
  rw [Addr.add_lit] at this
  simpa using this
theorem Rd8.of_own {w : World} {base : Nat} {A : Option Addr} {n c : Nat} {zs : List Int} (h : w.ownsRow base 5 1 (.slice A n c) n (u8s zs)) (hz : ∀ z ∈ zs, 0 ≤ z ∧ z ≤ 255) : Rd8 w A zs := fun hp => by
  have hn : zs.length = n := by have := h.1; rw [u8s_len] at this; omega
  obtain ⟨g, cap, hv, _, hlt⟩ := h.form (by omega)
  have hA : A = some ⟨g, 0, none⟩ := by injection hv
  subst hA
  refine ⟨g, 0, rfl, hlt, fun k hk => ?_⟩
  have hkz := hz zs[k] (List.getElem_mem hk)
  have := h.cells (g := g) rfl k (.int .u8 zs[k]) (by simp [u8s, List.getElem?_eq_getElem hk])
  rw [Addr.add_lit] at this
  rw [Nat.zero_add, List.getElem?_eq_getElem hk]
  exact ⟨by simpa using this, hkz.1, hkz.2⟩
theorem own_slice {w : World} {base n sz : Nat} {t : TypeId} {v : Value} {xs : List Value} (h : w.ownsRow base t sz v n xs) : ∃ A c, v = .slice A n c ∧ n ≤ c := by
  rcases h.2 with ⟨rfl, h0⟩ | ⟨g, cap, cur, rfl, _, _, hc, _⟩
  · exact ⟨none, 0, by rw [h0], by omega⟩
  · exact ⟨_, _, rfl, hc⟩
theorem u16_bd (r : Int) : 0 ≤ IntKind.u16.wrap r ∧ IntKind.u16.wrap r ≤ 65535 := by
  unfold IntKind.wrap
  simp [IntKind.bits, IntKind.signed]
  omega
theorem u8_bd (r : Int) : 0 ≤ IntKind.u8.wrap r ∧ IntKind.u8.wrap r ≤ 255 := by
  rw [IntKind.wrap_u8]
  omega
theorem rd8_lit (w : World) (zs : List Int) (hz : ∀ z ∈ zs, 0 ≤ z ∧ z ≤ 255) : Rd8 (w.alloc (.cells (zs.map (Value.int .u8)).toArray 5)) (some ⟨w.heap.size, 0, none⟩) zs := fun _ => by
  refine ⟨w.heap.size, 0, rfl, by simp, fun k hk => ?_⟩
  rw [World.cell?_alloc_at _ _ _ _ rfl, Nat.zero_add]
  have := hz zs[k] (List.getElem_mem hk)
  refine ⟨?_, by simpa [List.getElem?_eq_getElem hk] using this⟩
  simp [List.getElem?_eq_getElem hk]
theorem BxM.frozenK {w : World} {g n c : Nat} {i o : Int} {A : Option Addr} (h : BxM w g i o A n c) : w.frozen? ⟨g, 0, none⟩ = false ∧ w.frozen? ⟨g, 1, none⟩ = false ∧ w.frozen? ⟨g, 2, none⟩ = false := by
  unfold BxM at h
  refine ⟨?_, ?_, ?_⟩ <;> simp [World.frozen?, h]
theorem BxM.alK {w : World} {g n c : Nat} {i o : Int} {A : Option Addr} (h : BxM w g i o A n c) (ob : Obj) : BxM (w.alloc ob) g i o A n c := (Below.heap_alloc _ _ _ (heap_lt h)).trans h
/-- A row of one edge that was just laid. -/
theorem own_one (w : World) (base : Nat) (h : base ≤ w.heap.size) (x y : Int) : OwR (w.alloc (.cells #[.int .i64 x, .int .i64 y] 26)) base (.slice (some ⟨w.heap.size, 0, none⟩) 1 1) [(x, y)] :=
  ⟨rfl, .inr ⟨w.heap.size, 1, #[.int .i64 x, .int .i64 y], rfl, h, heap_alloc_new w _, Nat.le_refl _, by unfold maxLen; decide, rfl, rfl⟩⟩
/-- A row of two edges that was just laid. -/
theorem own_two (w : World) (base : Nat) (h : base ≤ w.heap.size) (x y u v : Int) : OwR (w.alloc (.cells #[.int .i64 x, .int .i64 y, .int .i64 u, .int .i64 v] 26)) base (.slice (some ⟨w.heap.size, 0, none⟩) 2 2) [(x, y), (u, v)] :=
  ⟨rfl, .inr ⟨w.heap.size, 2, #[.int .i64 x, .int .i64 y, .int .i64 u, .int .i64 v], rfl, h, heap_alloc_new w _, Nat.le_refl _, by unfold maxLen; decide, rfl, rfl⟩⟩
end Go.Proofs.Ytnodnfailjmpeaa

namespace Go.Proofs.Ytnodnfailjmpeaa
open Go.RowKit
namespace Mc
open M (gz)
def rg9 (n : Nat) : Ma := ⟨1, 2, (List.range 64).map fun (s : Nat) => [((((s + 1) % 64 : Nat) : Int), (((s % n + 1) / n : Nat) : Int))]⟩
theorem rg9_len (n : Nat) : (rg9 n).r.length = 64 := by simp [rg9]
theorem rg9_at {n s : Nat} (h : s < 64) : (rg9 n).r[s]? = some [((((s + 1) % 64 : Nat) : Int), (((s % n + 1) / n : Nat) : Int))] := by simp [rg9, h]
theorem rg9_out {n : Nat} (s : Nat) (h : 1 ≤ n) : (s % n + 1) / n < 2 := by
  have := Nat.mod_lt s h
  exact Nat.lt_succ_of_le (Nat.div_le_of_le_mul (by omega))
theorem rg9_val {n : Nat} (h : 1 ≤ n) : Val (rg9 n) := by
  refine ⟨by show (1 : Int) ≤ 1; omega, by show (1 : Int) ≤ 16; omega, by show (1 : Int) ≤ 2; omega, by show (2 : Int) ≤ 16; omega, by rw [rg9_len]; omega, by rw [rg9_len]; omega, fun row hr => ?_, fun row hr x hx => ?_⟩
  · obtain ⟨s, _, rfl⟩ := List.mem_map.1 hr
    rfl
  · obtain ⟨s, hs, rfl⟩ := List.mem_map.1 hr
    rw [List.mem_range] at hs
    rw [List.mem_singleton] at hx
    subst hx
    have h2 := rg9_out s h
    rw [rg9_len]
    exact Or.inr ⟨Int.natCast_nonneg _, by show (((s + 1) % 64 : Nat) : Int) < (64 : Nat); omega, Int.natCast_nonneg _, Int.ofNat_lt.2 h2⟩
theorem rg9_nx {n s : Nat} (h : s < 64) : nx (rg9 n) s 0 = ((((s + 1) % 64 : Nat) : Int), (((s % n + 1) / n : Nat) : Int)) := nx_at (m := rg9 n) (s := s) (i := 0) (rg9_at h) rfl
theorem rg9_wd (n k : Nat) : Wd (rg9 n) (List.replicate k 0) := fun c hc => by
  have := (List.mem_replicate.1 hc).2
  subst this
  exact ⟨by omega, by show (0 : Int) < 1; omega⟩
theorem rg9_i (n : Nat) : (qn (rg9 n)).i = 1 := rfl
theorem rg9_wq (n k : Nat) : Wd (qn (rg9 n)) (List.replicate k 0) := fun c hc => by
  have := (List.mem_replicate.1 hc).2
  subst this
  rw [rg9_i]
  omega
theorem rg9_v1 (k : Nat) : M.Val 1 (List.replicate k 0) := fun c hc => by
  have := (List.mem_replicate.1 hc).2
  subst this
  omega
theorem rg9_wordq {n : Nat} {w : List Int} (hw : Wd (qn (rg9 n)) w) : w = List.replicate w.length 0 :=
  List.eq_replicate_iff.2 ⟨rfl, fun c hc => by have := hw c hc; rw [rg9_i] at this; omega⟩
theorem rg9_word {n : Nat} {w : List Int} (hw : Wd (rg9 n) w) : w = List.replicate w.length 0 :=
  List.eq_replicate_iff.2 ⟨rfl, fun c hc => by have := hw c hc; have h2 : c < 1 := this.2; omega⟩
theorem rg9_aft (n : Nat) : ∀ k : Nat, aft (rg9 n) 0 (List.replicate k 0) = ((k % 64 : Nat) : Int)
  | 0 => rfl
  | k + 1 => by
    rw [List.replicate_succ', aft_snoc, rg9_aft n k, rg9_nx (Nat.mod_lt _ (by omega))]
    show (((k % 64 + 1) % 64 : Nat) : Int) = _
    omega
theorem rg9_mod {n : Nat} (hd : n ∣ 64) (s : Nat) : (s % 64) % n = s % n := Nat.mod_mod_of_dvd s hd
theorem rg9_same {n : Nat} (hd : n ∣ 64) : ∀ (w : List Int) (s t : Nat), s < 64 → t < 64 → s % n = t % n → Wd (rg9 n) w → run (rg9 n) s w = run (rg9 n) t w
  | [], _, _, _, _, _, _ => rfl
  | c :: w, s, t, hs, ht, e, hw => by
    have hc : c = 0 := by
      have := hw c (by simp)
      have h2 : c < 1 := this.2
      omega
    subst hc
    show (nx (rg9 n) s 0).2 :: run (rg9 n) (nx (rg9 n) s 0).1 w = (nx (rg9 n) t 0).2 :: run (rg9 n) (nx (rg9 n) t 0).1 w
    rw [rg9_nx hs, rg9_nx ht]
    simp only
    rw [e, rg9_same hd w ((s + 1) % 64) ((t + 1) % 64) (by omega) (by omega) (by rw [rg9_mod hd, rg9_mod hd, Nat.add_mod, e, ← Nat.add_mod]) (fun x hx => hw x (by simp [hx]))]
theorem rg9_run {n : Nat} (hd : n ∣ 64) : ∀ (k s j : Nat), s < 64 → j < k → (run (rg9 n) s (List.replicate k 0))[j]? = some ((((s + j) % n + 1) / n : Nat) : Int)
  | 0, _, _, _, h => absurd h (by omega)
  | k + 1, s, 0, hs, _ => by
    rw [List.replicate_succ]
    show (some (nx (rg9 n) s 0).2) = _
    rw [rg9_nx hs]
    rfl
  | k + 1, s, j + 1, hs, h => by
    rw [List.replicate_succ]
    show (run (rg9 n) (nx (rg9 n) s 0).1 (List.replicate k 0))[j]? = _
    rw [rg9_nx hs]
    simp only
    rw [rg9_run hd k ((s + 1) % 64) j (by omega) (by omega)]
    have e : ((s + 1) % 64 + j) % n = (s + (j + 1)) % n := by
      rw [← Nat.mod_add_mod, rg9_mod hd, Nat.mod_add_mod]
      congr 1
      omega
    rw [e]
theorem rg9_diff {n : Nat} (hd : n ∣ 64) (h1 : 1 ≤ n) {s t : Nat} (hs : s < 64) (ht : t < 64) (he : Eqw (rg9 n) s t) : s % n = t % n := by
  have ha := Nat.mod_lt s h1
  have hb := Nat.mod_lt t h1
  have e := he _ (rg9_wd n n)
  have e1 := rg9_run hd n s (n - 1 - s % n) hs (by omega)
  have e2 := rg9_run hd n t (n - 1 - s % n) ht (by omega)
  rw [e, e2] at e1
  rw [← Nat.mod_add_mod t, ← Nat.mod_add_mod s] at e1
  generalize s % n = a at ha e1
  generalize t % n = b at hb e1
  injection e1 with e1
  have h3 : (a + (n - 1 - a)) % n = n - 1 := by rw [show a + (n - 1 - a) = n - 1 by omega]; exact Nat.mod_eq_of_lt (by omega)
  rw [h3, show n - 1 + 1 = n by omega, Nat.div_self h1] at e1
  have e3 : ((b + (n - 1 - a)) % n + 1) / n = 1 := by omega
  have h4 : n ≤ (b + (n - 1 - a)) % n + 1 := by
    rcases Nat.lt_or_ge ((b + (n - 1 - a)) % n + 1) n with h | h
    · rw [Nat.div_eq_of_lt h] at e3
      omega
    · exact h
  rcases Nat.lt_or_ge (b + (n - 1 - a)) n with h | h
  · rw [Nat.mod_eq_of_lt h] at h4
    omega
  · rw [Nat.mod_eq_sub_mod h, Nat.mod_eq_of_lt (by omega)] at h4
    omega
theorem rg9_le {n : Nat} (hd : n ∣ 64) : n ≤ 64 := Nat.le_of_dvd (by omega) hd
section
variable {n : Nat} (hd : n ∣ 64) (h1 : 1 ≤ n)
include h1
theorem rg9_conn : conn (rg9 n) = true := (conn_con (rg9_val h1)).2 fun s hs => by
  rw [rg9_len] at hs
  exact ((ord_ord (rg9_val h1)).mem s).2 ⟨by omega, _, rg9_wd n s, by rw [rg9_aft]; omega⟩
theorem rg9_in {s : Nat} (hs : s < 64) : (s : Int) ∈ ord (rg9 n) := (conn_con (rg9_val h1)).1 (rg9_conn h1) s (by rw [rg9_len]; exact hs)
theorem rg9_rg {s : Nat} (hs : s < 64) : 0 ≤ qm (rg9 n) s ∧ qm (rg9 n) s < (qn (rg9 n)).r.length := by
  have := ql_rg (rg9_val h1) (rg9_conn h1) s (by rw [rg9_len]; exact hs)
  rwa [ql_gz (by rw [rg9_len]; exact hs)] at this
theorem rg9_to (k : Nat) : aft (qn (rg9 n)) 0 (List.replicate k 0) = qm (rg9 n) ((k % 64 : Nat) : Int) := by
  have h := (mnf_sim (rg9_val h1) (ord_ord (rg9_val h1)) (rg9_wd n k)).1
  rw [rg9_aft] at h
  exact h
include hd
theorem rg9_eq {s t : Nat} (hs : s < 64) (ht : t < 64) : qm (rg9 n) s = qm (rg9 n) t ↔ s % n = t % n := by
  have v := rg9_val h1
  constructor
  · intro e
    refine rg9_diff hd h1 hs ht fun w hw => ?_
    rw [← qn_st v hw (rg9_rg h1 hs).1, e, qn_st v hw (rg9_rg h1 ht).1]
  · intro e
    exact (fst_qt v ((ord_ord v).cls v)).same _ (rg9_in h1 hs) _ (rg9_in h1 ht) fun w hw => rg9_same hd w s t hs ht e hw
theorem rg9_st {t : Nat} (ht : t < (qn (rg9 n)).r.length) : ∃ j : Nat, j < n ∧ Lw (qn (rg9 n)) 0 (List.replicate j 0) t ∧ qm (rg9 n) j = t := by
  have h64 := rg9_le hd
  obtain ⟨w, hw⟩ := (qn_mnm (rg9_val h1)).lw (s := (t : Int)) (by omega) (by omega)
  have e := rg9_wordq hw.wd
  rw [e] at hw
  generalize w.length = j at hw
  have hto := hw.to
  rw [rg9_to h1] at hto
  have hj : j < n := by
    rcases Nat.lt_or_ge j n with h | h
    · exact h
    · have h3 := hw.le _ (rg9_wq n (j - n)) (by
        rw [rg9_to h1, ← hto]
        refine (rg9_eq hd h1 (Nat.mod_lt _ (by omega)) (Nat.mod_lt _ (by omega))).2 ?_
        rw [rg9_mod hd, rg9_mod hd, ← Nat.mod_eq_sub_mod h])
      have h4 := M.rk_short (n := 1) (by omega) (x := List.replicate (j - n) 0) (y := List.replicate j 0) (by simp; omega) (rg9_v1 _) (rg9_v1 _)
      rw [rg9_i] at h3
      omega
  rw [Nat.mod_eq_of_lt (by omega)] at hto
  exact ⟨j, hj, hw, hto⟩
theorem rg9_num : (qn (rg9 n)).r.length = n := by
  have h64 := rg9_le hd
  apply Nat.le_antisymm
  · have hJ : ∀ t : Nat, ∃ j : Nat, t < (qn (rg9 n)).r.length → j < n ∧ qm (rg9 n) j = t := fun t => by
      by_cases h : t < (qn (rg9 n)).r.length
      · obtain ⟨j, h1, _, h2⟩ := rg9_st hd h1 h
        exact ⟨j, fun _ => ⟨h1, h2⟩⟩
      · exact ⟨0, fun h2 => absurd h2 h⟩
    obtain ⟨J, hJ⟩ := Classical.axiomOfChoice hJ
    have := nodup_le n ((List.range (qn (rg9 n)).r.length).map fun t => (J t : Int)) (by
      rw [List.Nodup, List.pairwise_map]
      refine List.Pairwise.imp_of_mem ?_ List.pairwise_lt_range
      intro a b ha hb hab e
      simp at ha hb
      have h2 := (hJ a ha).2
      have h3 := (hJ b hb).2
      rw [e] at h2
      omega) (fun x hx => by
      obtain ⟨t, ht, rfl⟩ := List.mem_map.1 hx
      rw [List.mem_range] at ht
      have := (hJ t ht).1
      omega)
    simpa using this
  · have := nodup_le (qn (rg9 n)).r.length ((List.range n).map fun (s : Nat) => qm (rg9 n) s) (by
      rw [List.Nodup, List.pairwise_map]
      refine List.Pairwise.imp_of_mem ?_ List.pairwise_lt_range
      intro a b ha hb hab e
      simp at ha hb
      have h2 := (rg9_eq hd h1 (by omega) (by omega)).1 e
      rw [Nat.mod_eq_of_lt ha, Nat.mod_eq_of_lt hb] at h2
      omega) (fun x hx => by
      obtain ⟨t, ht, rfl⟩ := List.mem_map.1 hx
      rw [List.mem_range] at ht
      exact rg9_rg h1 (by omega))
    simpa using this
theorem rg9_last : qm (rg9 n) ((n - 1 : Nat) : Int) = ((n - 1 : Nat) : Int) := by
  have h64 := rg9_le hd
  have hl := rg9_num hd h1
  have mc := qn_mnm (rg9_val h1)
  have hr := rg9_rg h1 (s := n - 1) (by omega)
  rw [hl] at hr
  apply Classical.byContradiction
  intro hne
  obtain ⟨s, hs⟩ := Int.eq_ofNat_of_zero_le hr.1
  obtain ⟨j, hj, hw, hq⟩ := rg9_st hd h1 (t := n - 1) (by rw [hl]; omega)
  obtain ⟨j', hj', hw', hq'⟩ := rg9_st hd h1 (t := s) (by rw [hl]; omega)
  have e1 : j' = n - 1 := by
    have := (rg9_eq hd h1 (s := j') (t := n - 1) (by omega) (by omega)).1 (by rw [hq', hs])
    rw [Nat.mod_eq_of_lt hj', Nat.mod_eq_of_lt (by omega)] at this
    exact this
  have hj2 : j < n - 1 := by
    rcases Nat.lt_or_ge j (n - 1) with h | h
    · exact h
    · have : j = n - 1 := by omega
      rw [this] at hq
      exact absurd hq hne
  have h3 := mc.ar_lt (s := (s : Int)) (t := ((n - 1 : Nat) : Int)) (by omega) (by omega) (by rw [hl]; omega)
  rw [ar_eq mc.val.i0 hw', ar_eq mc.val.i0 hw] at h3
  have h4 := M.rk_short (n := 1) (by omega) (x := List.replicate j 0) (y := List.replicate j' 0) (by simp; omega) (rg9_v1 _) (rg9_v1 _)
  rw [rg9_i] at h3
  omega
theorem rg9_zero : gz (ql (rg9 n)) (n % 64) = 0 := by
  rw [ql_gz (by rw [rg9_len]; omega), ← qm_zero (rg9_val h1)]
  exact (rg9_eq hd h1 (s := n % 64) (t := 0) (by omega) (by omega)).2 (by rw [rg9_mod hd, Nat.mod_self, Nat.zero_mod])
theorem rg9_63 (h : 63 % n = n - 1) : gz (ql (rg9 n)) 63 = ((63 % n : Nat) : Int) := by
  rw [ql_gz (by rw [rg9_len]; omega), h, ← rg9_last hd h1]
  exact (rg9_eq hd h1 (s := 63) (t := n - 1) (by omega) (by have := rg9_le hd; omega)).2 (by rw [h, Nat.mod_eq_of_lt (by omega)])
end
end Mc
end Go.Proofs.Ytnodnfailjmpeaa
