/-
  Contracts: the reference's Parse.
-/
import Derived.Test.YtodjdfpealmjeaaDoorW12
import Derived.Test.YtodjdfpealmjeaaDoorScanM
namespace Go.Proofs.YtodjdfpealmjeaaDoor
open Go.RowKit

/-- append of one int to a row of the call's own. -/
theorem wpList_append_int (wr : World) {ops : Array Oper} {rest : List Oper} {o : Oper} {a : Act} {Q : Exit → Act → World → Prop} {W0 : World} {B : Nat} {v : Value} {xs : List Int} (z : Int)
    (hown : wr.ownsRow B 3 1 v xs.length (ints xs)) (hlen : xs.length ≤ 1000000) (hB : B ≤ wr.heap.size) (hbr : Below B W0 wr) (hgd : o.guard = none) (s x : Operand)
    (ho : o.op = .call { callee := .builtin .append, args := #[s, x], argTypes := #[22, 22] }) (hs : a.eval s = v) (hx : a.eval x = .slice (some ⟨wr.heap.size, 0, none⟩) 1 1)
    (h : ∀ v' w', w'.ownsRow B 3 1 v' (xs ++ [z]).length (ints (xs ++ [z])) → Below B W0 w' → wpList Tryd.prog ops Q rest (a.put o.dst v') w') :
    wpList Tryd.prog ops Q (o :: rest) a (wr.alloc (.cells #[.int .i64 z] 3)) := by
  obtain ⟨i0, hi0, hI0, hI1, hI2⟩ := info_parts int_info
  refine wpList_append_own _ hgd s x 22 ho B 3 i0 (.int .i64 0) 1 8 Tryd.underlying22 hi0 hI0 hI1 hI2 rfl (by decide) v xs.length (ints xs) hs (hown.alloc _) ⟨wr.heap.size, 0, none⟩ 1 1 [.int .i64 z] hx rfl (cell_one_new _ _ _) ?_ ?_ ?_ ?_ ?_
  · intro u hu
    simp at hu
    subst hu
    rfl
  · unfold maxLen; omega
  · omega
  · simp; omega
  · intro v1 w1 hown1 hg1 _
    obtain ⟨h1, h2⟩ := own_step hbr hB hown hown1 hg1
    exact h v1 w1 (by rw [List.length_append]; exact h1) h2

/-- What the reference's Parse hands back. -/
def Rp (w : World) (l : List UInt8) (e : Ending) (w' : World) : Prop := ∃ A c, e = .returned (.tuple #[.slice A (M.listV l).length c, .int .i64 (M.okI l)]) ∧ Rd w' A (M.listV l) ∧ Below w.heap.size w w'
theorem Rp.no {w w' : World} {l : List UInt8} (h1 : M.listOk l = false ∧ M.listV l = []) (hb : Below w.heap.size w w') : Rp w l (.returned (.tuple #[.slice none 0 0, .int .i64 0])) w' := by
  refine ⟨none, 0, ?_, ?_, hb⟩
  · rw [M.okI_no h1.1, h1.2]; rfl
  · rw [h1.2]; exact Rd.nil_
theorem Rp.yes {w w' : World} {l : List UInt8} {zs : List Int} {v : Value} {n : Nat} (h1 : M.listOk l = true ∧ M.listV l = zs) (hv : w'.ownsRow w.heap.size 3 1 v n (ints zs)) (hb : Below w.heap.size w w') : Rp w l (.returned (.tuple #[v, .int .i64 1])) w' := by
  obtain ⟨A, c, he, hr, _, _⟩ := Built.of_own hv hb
  injection he with he
  subst he
  refine ⟨A, c, ?_, ?_, hb⟩
  · rw [M.okI_yes h1.1, h1.2]
  · rw [h1.2]; exact hr

set_option maxRecDepth 100000 in
set_option maxHeartbeats 1600000 in
theorem rparse_loop (s : ByteArray) (w : World) (hs : s.size ≤ 65536) (hd : s.data.toList ≠ [45]) :
    Calls Tryd.prog 31 #[.string s] w (Rp w s.data.toList) := by
  have hne : (s.toList == [45]) = false := by
    rw [ByteArray.toList_eq, beq_eq_false_iff_ne]
    exact hd
  have HD := Lib.hid hd
  have HL := Lib.hid (len_byte s)
  obtain ⟨i0, hi0, hI0, hI1, hI2⟩ := info_parts int_info
  clear hd
  go_enter Tryd.func31, Tryd.ntmps31
  go_wp2
  go_loopw [4, 5] (fun v i wr => ∃ (p : Nat) (xs : List Int), p ≤ s.size ∧ i = .int .i64 p ∧ wr.ownsRow w.heap.size 3 1 v xs.length (ints xs) ∧ xs.length ≤ p ∧ Hid (M.Ps s.data.toList p xs) ∧ Below w.heap.size w wr) (fun _ i _ => s.size + 1 - (intOf i).toNat)
  case atStart => exact ⟨0, [], Nat.zero_le _, rfl, World.ownsRow_nil w _ _ _, Nat.le_refl _, M.Ps.start _, Below.refl _ _⟩
  case round =>
    obtain ⟨p, xs, hp, rfl, hown, hxl, hP, hbr⟩ := hrel
    have hsz := hbr.size
    obtain ⟨wo, rfl⟩ : ∃ wo : World, wo = wr := ⟨_, rfl⟩
    go_wp2
    go_loop [6, 7] (fun n i => ∃ (k : Nat) (m : Int), p ≤ k ∧ k ≤ p + 10 ∧ k ≤ s.size ∧ i = .int .i64 k ∧ n = .int .i64 m ∧ Hid (M.Sc s.data.toList p k m)) (fun _ i => s.size - (intOf i).toNat)
    case atStart => exact ⟨p, 0, Nat.le_refl _, by omega, hp, rfl, rfl, M.Sc.start (by rw [HL.out]; exact hp)⟩
    case round =>
      obtain ⟨k, m, hpk, hk10, hk, rfl, rfl, hS⟩ := hrel
      obtain ⟨hm1, hm2⟩ := hS.out.bound hk10
      by_cases hin : ∃ h : k < s.size, k < p + 10 ∧ M.nod s[k] = false
      · obtain ⟨hlt, hlt2, hn⟩ := hin
        have HS := Lib.hid (hS.out.step (at_byte s k hlt) hn)
        obtain ⟨hb1, hb2⟩ := M.nod_no (c := s[k]) (by rw [hn]; simp)
        clear hn
        go_wp2
        go_round
        case rel => exact ⟨k + 1, _, by omega, by omega, by omega, by go_num, rfl, HS⟩
        case measure => simp [intOf]; omega
      · have hex : k = s.size ∨ (∃ h : k < s.size, k = p + 10) ∨ (∃ h : k < s.size, k < p + 10 ∧ (s[k].toNat : Int) < 48) ∨ (∃ h : k < s.size, k < p + 10 ∧ ¬ (s[k].toNat : Int) < 48 ∧ 57 < (s[k].toNat : Int)) := by
          rcases Nat.lt_or_ge k s.size with h1 | h1
          · rcases Nat.lt_or_ge k (p + 10) with h2 | h2
            · have hn : M.nod s[k] = true := by
                cases hq : M.nod s[k]
                · exact absurd ⟨h1, h2, hq⟩ hin
                · rfl
              rcases M.nod_yes hn with h3 | h3
              · exact .inr (.inr (.inl ⟨h1, h2, h3⟩))
              · exact .inr (.inr (.inr ⟨h1, h2, by omega, h3⟩))
            · exact .inr (.inl ⟨h1, by omega⟩)
          · exact .inl (by omega)
        have hmax : k = s.data.toList.length ∨ k = p + 10 ∨ ∃ c, s.data.toList[k]? = some c ∧ M.nod c = true := by
          rcases hex with h1 | ⟨h1, h2⟩ | ⟨h1, h2, h3⟩ | ⟨h1, h2, h3, h4⟩
          · exact .inl (by rw [HL.out]; exact h1)
          · exact .inr (.inl h2)
          · exact .inr (.inr ⟨_, at_byte s k h1, by simp [M.nod, h3]⟩)
          · exact .inr (.inr ⟨_, at_byte s k h1, by simp [M.nod, h4]⟩)
        have HX := Lib.hid hmax
        clear hmax hin
        by_cases c1 : k = p
        · have HB := Lib.hid (hP.out.bad HD.out (hS.out.bad HX.out (.inl c1)))
          subst c1
          rcases hex with h1 | ⟨h1, h2⟩ | ⟨h1, h2, h3⟩ | ⟨h1, h2, h3, h4⟩
          · have hge : ¬ (k : Int) < s.size := by omega
            clear h1
            go_wp2
            go_ret2
            exact Rp.no HB.out hbr
          · omega
          · go_wp2
            go_ret2
            exact Rp.no HB.out hbr
          · go_wp2
            go_ret2
            exact Rp.no HB.out hbr
        · have hb1 : ((k : Int) == p) = false := by simp; omega
          by_cases c2 : p + 9 < k
          · have HB := Lib.hid (hP.out.bad HD.out (hS.out.bad HX.out (.inr (.inl c2))))
            clear c1
            rcases hex with h1 | ⟨h1, h2⟩ | ⟨h1, h2, h3⟩ | ⟨h1, h2, h3, h4⟩
            · have hge : ¬ (k : Int) < s.size := by omega
              clear h1
              go_wp2
              go_ret2
              exact Rp.no HB.out hbr
            · have hge : ¬ (k : Int) < p + 10 := by omega
              clear h2
              go_wp2
              go_ret2
              exact Rp.no HB.out hbr
            · omega
            · omega
          · by_cases c3 : p + 1 < k ∧ s.data.toList[p]? = some 48
            · have HB := Lib.hid (hP.out.bad HD.out (hS.out.bad HX.out (.inr (.inr (.inl c3)))))
              obtain ⟨c3a, c3b⟩ := c3
              have hps : p < s.size := by omega
              rw [at_byte s p hps] at c3b
              injection c3b with c3b
              have hb3 : ((s[p].toNat : Int) == 48) = true := by rw [c3b]; rfl
              clear c3b c1
              rcases hex with h1 | ⟨h1, h2⟩ | ⟨h1, h2, h3⟩ | ⟨h1, h2, h3, h4⟩
              · have hge : ¬ (k : Int) < s.size := by omega
                clear h1
                go_wp2
                go_ret2
                exact Rp.no HB.out hbr
              · omega
              · go_wp2
                go_ret2
                exact Rp.no HB.out hbr
              · go_wp2
                go_ret2
                exact Rp.no HB.out hbr
            · have HG := Lib.hid (hS.out.good c1 c2 c3)
              have hb3 : p + 1 < k → ∃ h : p < s.size, ((s[p].toNat : Int) == 48) = false := fun c3a => by
                have hps : p < s.size := by omega
                refine ⟨hps, ?_⟩
                rw [beq_eq_false_iff_ne]
                intro e
                refine c3 ⟨c3a, ?_⟩
                rw [at_byte s p hps]
                congr 1
                apply UInt8.toNat_inj.1
                have : s[p].toNat = 48 := by omega
                simpa using this
              clear c3 c1
              rcases hex with h1 | ⟨h1, h2⟩ | hex2
              · subst h1
                have HF := Lib.hid (hP.out.last (n := m) HD.out (by
                  have := hS.out
                  rw [← HL.out] at this
                  exact this.last) (by rw [HL.out]; exact HG.out.1) (by rw [HL.out]; exact HG.out.2))
                have hxl2 : xs.length ≤ 1000000 := by omega
                by_cases c3a : p + 1 < s.size
                · obtain ⟨hps, hb4⟩ := hb3 c3a
                  clear hb3
                  go_wp2_with (at_builtin; refine wpList_append_int _ m hown hxl2 hsz hbr rfl _ _ rfl rfl rfl ?_)
                  intro v1 w1 hown1 hbr1
                  clear hown hbr
                  go_wp2
                  go_ret2
                  exact Rp.yes HF.out hown1 hbr1
                · clear hb3
                  go_wp2_with (at_builtin; refine wpList_append_int _ m hown hxl2 hsz hbr rfl _ _ rfl rfl rfl ?_)
                  intro v1 w1 hown1 hbr1
                  clear hown hbr
                  go_wp2
                  go_ret2
                  exact Rp.yes HF.out hown1 hbr1
              · omega
              · have hlt : k < s.size := by
                  rcases hex2 with ⟨h1, _⟩ | ⟨h1, _⟩
                  · exact h1
                  · exact h1
                have hlt10 : k < p + 10 := by omega
                have hxl2 : xs.length ≤ 1000000 := by omega
                by_cases c4 : s[k] = 32
                · have h48 : (s[k].toNat : Int) < 48 := by rw [c4]; decide
                  have hb5 : ((s[k].toNat : Int) != 32) = false := by rw [c4]; rfl
                  have hb6 : ((k : Int) == s.size) = false := by simp; omega
                  have HM := Lib.hid (hP.out.step (hS.out.more (by rw [at_byte s k hlt, c4])) HG.out.1 HG.out.2)
                  clear hex2 c4
                  by_cases c3a : p + 1 < k
                  · obtain ⟨hps, hb4⟩ := hb3 c3a
                    clear hb3
                    go_wp2_with (at_builtin; refine wpList_append_int _ m hown hxl2 hsz hbr rfl _ _ rfl rfl rfl ?_)
                    intro v1 w1 hown1 hbr1
                    clear hown hbr
                    go_wp2
                    go_roundw
                    case rel => exact ⟨k + 1, xs ++ [m], by omega, by go_num, (by rw [List.length_append]; exact hown1), by rw [List.length_append, List.length_singleton]; omega, HM, hbr1⟩
                    case measure => simp [intOf]; omega
                  · clear hb3
                    go_wp2_with (at_builtin; refine wpList_append_int _ m hown hxl2 hsz hbr rfl _ _ rfl rfl rfl ?_)
                    intro v1 w1 hown1 hbr1
                    clear hown hbr
                    go_wp2
                    go_roundw
                    case rel => exact ⟨k + 1, xs ++ [m], by omega, by go_num, (by rw [List.length_append]; exact hown1), by rw [List.length_append, List.length_singleton]; omega, HM, hbr1⟩
                    case measure => simp [intOf]; omega
                · have HB := Lib.hid (hP.out.bad HD.out (hS.out.bad HX.out (.inr (.inr (.inr ⟨_, at_byte s k hlt, c4⟩)))))
                  have hb5 : ((s[k].toNat : Int) != 32) = true := by
                    rw [bne_iff_ne]
                    intro e
                    apply c4
                    apply UInt8.toNat_inj.1
                    have : s[k].toNat = 32 := by omega
                    simpa using this
                  clear c4
                  by_cases c3a : p + 1 < k
                  · obtain ⟨hps, hb4⟩ := hb3 c3a
                    clear hb3
                    rcases hex2 with ⟨h1, h2, h3⟩ | ⟨h1, h2, h3, h4⟩
                    · go_wp2
                      go_ret2
                      exact Rp.no HB.out hbr
                    · go_wp2
                      go_ret2
                      exact Rp.no HB.out hbr
                  · clear hb3
                    rcases hex2 with ⟨h1, h2, h3⟩ | ⟨h1, h2, h3, h4⟩
                    · go_wp2
                      go_ret2
                      exact Rp.no HB.out hbr
                    · go_wp2
                      go_ret2
                      exact Rp.no HB.out hbr
end Go.Proofs.YtodjdfpealmjeaaDoor
