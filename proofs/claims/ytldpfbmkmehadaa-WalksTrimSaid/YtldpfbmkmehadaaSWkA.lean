/-
  append(s, x...) of lists of ints, s of the call's own, x whatever it is. No statement is proved here.
-/
import Derived.Test.YtldpfbmkmehadaaSWk2
namespace Go.Proofs.Ytldpfbmkmehadaa
open Go.RowKit

theorem run_append_zero {P : Program} (w : World) (t ty e : TypeId) (i : TypeInfo) (hi : P.info? e = some i) (ht : P.underlying t = some (.slice e)) (q p : Option Addr) (k d c : Nat) (hk : k ≤ d) :
    (Builtin.append_ #[t, t] ty #[.slice q k d, .slice p 0 c]).run P w = .ok (.slice q k d) w := by
  cases p <;> cases q <;> simp [Builtin.append_, run_underlying ht, sizeOf, typeInfo, hi, Builtin.lenOf, Builtin.firstCells, loadCells, loadCellsFrom, storeCells, hk]
set_option maxRecDepth 100000 in
theorem wpList_append_list (wr : World) {ops : Array Oper} {rest : List Oper} {o : Oper} {a : Act} {Q : Exit → Act → World → Prop} {W0 : World} {B : Nat} {v : Value} {xs ys : List Int} {A : Option Addr} {n c : Nat}
    (hown : OwI wr B v xs) (hr : Rd wr A ys) (hn : ys.length = n) (hlen : xs.length + n ≤ 1000000) (hB : B ≤ wr.heap.size) (hbr : Below B W0 wr) (hgd : o.guard = none) (s x : Operand)
    (ho : o.op = .call { callee := .builtin .append, args := #[s, x], argTypes := #[36, 36] }) (hs : a.eval s = v) (hx : a.eval x = .slice A n c)
    (h : ∀ v1 w1, OwI w1 B v1 (xs ++ ys) → Below B W0 w1 → wpList Try.prog ops Q rest (a.put o.dst v1) w1) : wpList Try.prog ops Q (o :: rest) a wr := by
  obtain ⟨i0, hi0, hz0, hz1, hz2⟩ := info_parts int_info
  rcases Nat.eq_zero_or_pos n with h0 | h0
  · subst h0
    obtain rfl : ys = [] := List.length_eq_zero_iff.1 hn
    obtain ⟨q, d, rfl, hd⟩ := own_formI hown
    refine wpList_plain hgd fun K hK => ?_
    have hrun := run_append_zero (P := Try.prog) wr 36 o.type 3 i0 hi0 Try.underlying36 q A xs.length d c hd
    unfold Oper.wp
    simp [execOp, ho, resolve, invoke, builtin, hs, hx, hrun, Result.andThen]
    exact hK _ _ (h _ _ (by rw [List.append_nil]; exact hown) hbr)
  · obtain ⟨b, off, rfl, hb, hc⟩ := hr (by rw [hn]; exact h0)
    have hil : (ints ys).length = n * 1 := by rw [ints_len, hn, Nat.mul_one]
    refine wpList_append_own _ hgd s x 36 ho B 3 i0 (.int .i64 0) 1 8 Try.underlying36 hi0 hz0 hz1 hz2 rfl (by decide) v xs.length (ints xs) hs hown ⟨b, off, none⟩ n c (ints ys) hx hil ?_ ?_ ?_ ?_ hB ?_
    · intro j u hj
      have hjl : j < ys.length := by have := (List.getElem?_eq_some_iff.1 hj).1; rwa [ints_len] at this
      rw [ints_at hjl] at hj
      injection hj with hj
      subst hj
      rw [Addr.add_lit]
      exact hc j hjl
    · intro u hu
      obtain ⟨z, _, rfl⟩ := List.mem_map.1 hu
      rfl
    · unfold maxLen; omega
    · omega
    · intro v1 w1 hown1 hg1 _
      have hown2 : OwI w1 B v1 (xs ++ ys) := by
        have e : ints (xs ++ ys) = ints xs ++ ints ys := by simp [ints]
        unfold OwI
        rw [e, List.length_append, hn]
        exact hown1
      exact h v1 w1 hown2 (hbr.grown hg1 hB (fun j hj => (hown.lt j hj).1))
end Go.Proofs.Ytldpfbmkmehadaa
