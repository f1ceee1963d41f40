/-
  Contracts: classes.Meet and classes.Join, whatever they are given.
-/
import Derived.Test.YtonnplhiaidjnaaSC12
import Derived.Test.YtonnplhiaidjnaaSC11
import Derived.Test.YtonnplhiaidjnaaSC10
import Derived.Test.YtonnplhiaidjnaaSC9
namespace Go.Proofs.Ytonnplhiaidjnaa
open Go.RowKit

namespace M
def meetV (p q : List Int) : List Int := if both p q = 0 then meet p q else []
def joinV (p q : List Int) : List Int := if both p q = 0 then pjoin p q else []
theorem meetV_err {p q : List Int} {e : Int} (h : both p q = e) (h0 : e ≠ 0) : meetV p q = [] := by simp [meetV, h, h0]
theorem joinV_err {p q : List Int} {e : Int} (h : both p q = e) (h0 : e ≠ 0) : joinV p q = [] := by simp [joinV, h, h0]
theorem meetV_ok {p q : List Int} (h : both p q = 0) : meetV p q = meet p q := by simp [meetV, h]
theorem joinV_ok {p q : List Int} (h : both p q = 0) : joinV p q = pjoin p q := by simp [joinV, h]
end M

theorem close_at (A : Option Addr) (c m : Nat) (n : Int) (ps : List (Int × Int)) (w : World) (h : RdQ w A ps) (e : ps.length = m) (hm : m ≤ 1000000) :
    Calls Try.prog 59 #[.int .i64 n, .slice A m c] w (Made w (M.clV n ps) (M.clE n ps)) := by
  subst e
  exact close_any A c n ps w h hm

set_option maxRecDepth 100000 in
set_option maxHeartbeats 1000000 in
theorem join_any (A B : Option Addr) (c d : Nat) (p q : List Int) (w : World) (hp : Rd w A p) (hq : Rd w B q) :
    Calls Try.prog 29 #[.slice A p.length c, .slice B q.length d] w (Made w (M.joinV p q) (M.both p q)) := by
  have C1 := both_any A B c d p q w hp hq
  obtain ⟨x, hx⟩ : ∃ x, Hid (M.both p q = x) := ⟨_, rfl⟩
  rw [hx.out] at C1
  by_cases hx0 : x = 0
  · subst hx0
    have HT := Lib.hid (M.both_zero hx.out)
    have h1 : p.length ≤ 256 := HT.out.most
    have h2 : q.length ≤ 256 := by have := HT.out.same; omega
    rw [M.joinV_ok hx.out, hx.out]
    have hrng : M.Rng p.length (M.lk p ++ M.lk q) := M.rng_app (M.lk_rng p) (by rw [HT.out.same]; exact M.lk_rng q)
    have hE : M.clE p.length (intP (M.lk p) ++ intP (M.lk q)) = 0 := by
      refine M.clE_ok (by omega) (by omega) fun x hx => ?_
      have e : intP (M.lk p) ++ intP (M.lk q) = intP (M.lk p ++ M.lk q) := by simp [intP]
      rw [e] at hx
      have := InP.of_rng hrng x hx
      exact ⟨this.1, this.2.1, this.2.2.1, this.2.2.2⟩
    have hV : M.clV p.length (intP (M.lk p) ++ intP (M.lk q)) = M.pjoin p q := by
      have e : intP (M.lk p) ++ intP (M.lk q) = intP (M.lk p ++ M.lk q) := by simp [intP]
      rw [M.clV_ok hE, Int.toNat_natCast, e, natP_intP, M.join_links HT.out.same]
    have HE := Lib.hid hE
    have HV := Lib.hid hV
    have l1 : (intP (M.lk p)).length = p.length := by rw [intP_len]; simp [M.lk]
    have l2 : (intP (M.lk q)).length = q.length := by rw [intP_len]; simp [M.lk]
    have L1 := Lib.hid l1
    have L2 := Lib.hid l2
    clear hrng hE hV hx l1 l2
    go_enter Try.func29, Try.ntmps29
    go_wp2_with fail
    refine C1.mono ?_
    rintro e w1 ⟨rfl, hb1⟩
    go_wp2_with fail
    refine (links_any A c p w1 (hp.below hb1) h1 HT.out.left).mono ?_
    rintro e w2 ⟨g1, rfl, hr1, hg1, hb2⟩
    go_wp2_with fail
    refine (links_any B d q w2 (hq.below (below_next hb1 hb2)) h2 HT.out.right).mono ?_
    rintro e w3 ⟨g2, rfl, hr2, hg2, hb3⟩
    have hr1' := hr1.below hb3
    have hs3 := hb3.size
    obtain ⟨o, ho⟩ : ∃ o, Hid (o = Obj.cells #[.slice (some ⟨g1, 0, none⟩) p.length p.length, .slice (some ⟨g2, 0, none⟩) q.length q.length] 103) := ⟨_, rfl⟩
    have hba : Below w3.heap.size w3 (w3.alloc o) := (Below.refl _ _).alloc (Nat.le_refl _) o
    have C := pconcat_any w3.heap.size g1 0 g2 0 p.length q.length p.length q.length (intP (M.lk p)) (intP (M.lk q)) (w3.alloc o) (by rw [ho.out, World.cell?_alloc_at _ _ _ _ rfl]; rfl) (by rw [ho.out, World.cell?_alloc_at _ _ _ _ rfl]; rfl) (by simp) (hr1'.below hba) (hr2.below hba) L1.out L2.out h1 h2
    have hbt := below_next (below_next (below_next hb1 hb2) hb3) hba
    rw [ho.out] at C hbt
    clear hba ho
    go_wp2_with fail
    refine C.mono ?_
    rintro e w4 ⟨A4, c4, rfl, hr4, hb4⟩
    have hl4 : (intP (M.lk p) ++ intP (M.lk q)).length = p.length + q.length := by rw [List.length_append, L1.out, L2.out]
    rw [hl4]
    have C5 := close_at A4 c4 (p.length + q.length) p.length _ w4 hr4 hl4 (by omega)
    rw [HE.out, HV.out] at C5
    go_wp2_with fail
    refine C5.mono ?_
    rintro e w5 ⟨A5, rfl, hr5, hb5⟩
    go_wp2
    go_ret2
    exact ⟨A5, rfl, hr5, below_next (below_next hbt hb4) hb5⟩
  · have hne : (x != 0) = true := by simpa using hx0
    rw [M.joinV_err hx.out hx0, hx.out]
    clear hx
    go_enter Try.func29, Try.ntmps29
    go_wp2_with fail
    refine C1.mono ?_
    rintro e w1 ⟨rfl, hb1⟩
    go_wp2
    go_ret2
    exact Made.mk rfl rfl rfl Rd.nil_ hb1
end Go.Proofs.Ytonnplhiaidjnaa
