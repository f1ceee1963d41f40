/-
  A region of Access in a round, which draws its order: two stores. No statement is proved here.
-/
import Derived.Test.YthemaombpddbbaaCtZ
import Derived.BigRegionIn
namespace Go.Proofs.Ythemaombpddbbaa
open Go.RowKit
attribute [local go_sem] Oper.semAt_some

def accFind (k : Nat) : Code → Option Code
  | .region id ops d => if id = k then some (.region id ops d) else none
  | .seq a b => match accFind k a with
    | some c => some c
    | none => accFind k b
  | .block _ c => accFind k c
  | .scope c => accFind k c
  | .loop c => accFind k c
  | .cond _ a b => match accFind k a with
    | some c => some c
    | none => accFind k b
  | .rangeFunc _ _ a b => match accFind k a with
    | some c => some c
    | none => accFind k b
  | _ => none
noncomputable def accReg (k : Nat) : Code := ((Try.f31.body.bind (accFind k)).getD .skip)
set_option maxRecDepth 1000000 in
set_option maxHeartbeats 4000000 in
theorem acc_region {l nn : Nat} {Q : Exit → Act → World → Prop} {W2 : World} {gP bP gR bR n t len : Nat} {X : Option Addr} {v0 v1 : Value} {u0 u1 u2 u3 u4 u5 u10 u11 u12 u13 u14 u15 u16 u17 u18 u19 u20 u21 u22 u23 u24 u25 u26 u27 u28 u29 u30 u31 u32 u33 u34 u35 : Value}
    (b0 : W2.cell? ⟨bP, 0, none⟩ = some (.slice (some ⟨gP, 0, none⟩) n n)) (b1 : W2.cell? ⟨bR, 0, none⟩ = some (.slice (some ⟨gR, 0, none⟩) n n)) (b2 : (W2.setCell ⟨gP, t, none⟩ (.slice X len len)).cell? ⟨bR, 0, none⟩ = some (.slice (some ⟨gR, 0, none⟩) n n))
    (c0 : W2.cell? ⟨gP, t, none⟩ = some v0) (c1 : W2.frozen? ⟨gP, t, none⟩ = false) (d0 : (W2.setCell ⟨gP, t, none⟩ (.slice X len len)).cell? ⟨gR, t, none⟩ = some v1) (d1 : (W2.setCell ⟨gP, t, none⟩ (.slice X len len)).frozen? ⟨gR, t, none⟩ = false) (htn : t < n)
    (hQ : Q .normal ⟨#[u0, u1, u2, u3, u4, u5, .pointer (some ⟨bP, 0, none⟩), .pointer (some ⟨bR, 0, none⟩), .int .i64 t, .slice X len len, u10, u11, u12, u13, u14, u15, u16, u17, u18, u19, u20, u21, u22, u23, u24, u25, u26, .slice (some ⟨gP, 0, none⟩) n n, .int .i64 t, .slice (some ⟨gR, 0, none⟩) n n, .int .i64 t, .slice X len len, .pointer (some ⟨gP, t, none⟩), .pointer (some ⟨gR, t, none⟩), u34, u35], []⟩ ((W2.setCell ⟨gP, t, none⟩ (.slice X len len)).setCell ⟨gR, t, none⟩ (.bool true)).drew) :
    (accReg 9).wpIn (Fence.wide.inRound l) nn Try.prog Q ⟨#[u0, u1, u2, u3, u4, u5, .pointer (some ⟨bP, 0, none⟩), .pointer (some ⟨bR, 0, none⟩), .int .i64 t, .slice X len len, u10, u11, u12, u13, u14, u15, u16, u17, u18, u19, u20, u21, u22, u23, u24, u25, u26, u27, u28, u29, u30, u31, u32, u33, u34, u35], []⟩ W2 := by
  conv => arg 4; whnf
  have HQ := Lib.hid hQ
  clear hQ
  gi_region
  all_goals exact HQ.out

end Go.Proofs.Ythemaombpddbbaa
