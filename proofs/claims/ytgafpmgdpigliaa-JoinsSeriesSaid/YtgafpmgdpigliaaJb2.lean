/-
  The law's own lives: the examples of the chapter. No statement is proved here.
-/
import Derived.Test.YtgafpmgdpigliaaJb3
namespace Go.Proofs.Ytgafpmgdpigliaa
open Go.RowKit
open Mc (Ed Ma Wv nE)

def jFind (k : Nat) : Code → Option Code
  | .region id ops d => if id = k then some (.region id ops d) else none
  | .seq a b => match jFind k a with
    | some c => some c
    | none => jFind k b
  | .block _ c => jFind k c
  | .scope c => jFind k c
  | .loop c => jFind k c
  | .cond _ a b => match jFind k a with
    | some c => some c
    | none => jFind k b
  | _ => none
def regOps : Code → Array Oper
  | .region _ ops _ => ops
  | _ => #[]
noncomputable def jl16 : Array Oper := regOps ((Try.f24.body.bind (jFind 16)).getD .skip)
def jds : List (Option Tmp) := [some 117, some 118, some 119, some 120, some 121, some 122, some 123, some 124, some 125, some 126, some 127, some 128, some 129, some 130, some 131, some 132, some 133, some 134, some 135, some 136, some 137, some 138, some 139, some 140, some 141, some 142, some 143, some 144, some 145, some 146, some 147, some 148, some 149, some 150, some 151, some 152, some 153, some 154, some 155, some 156, some 157, some 158, some 159, some 160, some 161, some 162, some 163, some 164, some 165, some 166, some 167, some 168, some 169, some 170, some 171, some 172, some 173, some 174, some 175, some 176, some 177, some 178, some 179, some 180, some 181, some 182, some 183, some 184, some 185, some 186, some 187, some 188, some 189, some 190, some 191, some 192, some 193, some 194, some 195, some 196, some 197, some 198, some 199, some 200, some 201, some 202, some 203, some 204, some 205, some 206, some 207, some 208, some 209, some 210, some 211, some 212, some 213, some 214, some 215, some 216, some 217, some 218, some 0]
def jPH (pd pf ph pj pl pp pt : Nat) : List KP := [
  kv (.agg #[.int .i64 1, .int .i64 2, .slice (some ⟨pd, 0, none⟩) 3 3]),
  kv (.int .i64 0),
  kv (.agg #[.int .i64 1, .int .i64 0]),
  kRow [(1, 0)],
  kv (.agg #[.int .i64 2, .int .i64 1]),
  kRow [(2, 1)],
  kv (.agg #[.int .i64 1, .int .i64 1]),
  kRow [(1, 1)],
  kRows [[(1, 0)], [(2, 1)], [(1, 1)]],
  kMach 1 2 [[(1, 0)], [(2, 1)], [(1, 1)]],
  kv (.bool true),
  kv (.bool true),
  kv (.agg #[.int .i64 1, .int .i64 4, .slice (some ⟨pf, 0, none⟩) 2 2]),
  kv (.int .i64 0),
  kv (.agg #[.int .i64 1, .int .i64 0]),
  kRow [(1, 0)],
  kv (.agg #[.int .i64 0, .int .i64 3]),
  kRow [(0, 3)],
  kRows [[(1, 0)], [(0, 3)]],
  kMach 1 4 [[(1, 0)], [(0, 3)]],
  kv (.bool true),
  kv (.bool true),
  kv (.bool true),
  kv (.agg #[.int .i64 1, .int .i64 2, .slice (some ⟨ph, 0, none⟩) 2 2]),
  kv (.int .i64 0),
  kv (.agg #[.int .i64 1, .int .i64 1]),
  kRow [(1, 1)],
  kv (.agg #[.int .i64 0, .int .i64 0]),
  kRow [(0, 0)],
  kRows [[(1, 1)], [(0, 0)]],
  kMach 1 2 [[(1, 1)], [(0, 0)]],
  kv (.bool true),
  kv (.bool true),
  kv (.bool true),
  kv (.agg #[.int .i64 1, .int .i64 1, .slice (some ⟨pj, 0, none⟩) 1 1]),
  kv (.int .i64 0),
  kv (.agg #[.int .i64 0, .int .i64 0]),
  kRow [(0, 0)],
  kRows [[(0, 0)]],
  kMach 1 1 [[(0, 0)]],
  kv (.bool true),
  kv (.bool true),
  kv (.bool true),
  kv (.agg #[.int .i64 1, .int .i64 1, .slice (some ⟨pl, 0, none⟩) 2 2]),
  kv (.int .i64 0),
  kv (.agg #[.int .i64 1, .int .i64 0]),
  kRow [(1, 0)],
  kv (.agg #[.int .i64 1, .int .i64 0]),
  kRow [(1, 0)],
  kRows [[(1, 0)], [(1, 0)]],
  kMach 1 1 [[(1, 0)], [(1, 0)]],
  kv (.bool true),
  kv (.bool true),
  kv (.bool true),
  kv (.agg #[.int .i64 0, .int .i64 0, .slice none 0 0]),
  kv (.int .i64 1),
  kv (.bool true),
  kv (.bool true),
  kv (.bool true),
  kv (.agg #[.int .i64 1, .int .i64 2, .slice (some ⟨pp, 0, none⟩) 2 2]),
  kv (.int .i64 0),
  kv (.agg #[.int .i64 1, .int .i64 1]),
  kRow [(1, 1)],
  kv (.agg #[.int .i64 1, .int .i64 0]),
  kRow [(1, 0)],
  kRows [[(1, 1)], [(1, 0)]],
  kMach 1 2 [[(1, 1)], [(1, 0)]],
  kv (.bool true),
  kv (.bool true),
  kv (.bool true),
  kv (.agg #[.int .i64 0, .int .i64 0, .slice none 0 0]),
  kv (.int .i64 1),
  kv (.bool true),
  kv (.bool true),
  kv (.bool true),
  kv (.agg #[.int .i64 1, .int .i64 2, .slice (some ⟨pt, 0, none⟩) 3 3]),
  kv (.int .i64 0),
  kv (.agg #[.int .i64 1, .int .i64 0]),
  kRow [(1, 0)],
  kv (.agg #[.int .i64 0, .int .i64 1]),
  kRow [(0, 1)],
  kv (.agg #[.int .i64 (-1), .int .i64 (-1)]),
  kRow [((-1), (-1))],
  kRows [[(1, 0)], [(0, 1)], [((-1), (-1))]],
  kMach 1 2 [[(1, 0)], [(0, 1)], [((-1), (-1))]],
  kv (.bool true),
  kv (.bool true),
  kv (.bool true),
  kv (.agg #[.int .i64 0, .int .i64 0, .slice none 0 0]),
  kv (.int .i64 5),
  kv (.bool true),
  kv (.bool true),
  kv (.bool true),
  kv (.agg #[.int .i64 0, .int .i64 0, .slice none 0 0]),
  kv (.int .i64 5),
  kv (.bool true),
  kv (.bool true),
  kv (.bool true),
  kv (.agg #[.int .i64 0, .int .i64 0, .slice none 0 0]),
  kv (.int .i64 5),
  kv (.bool true),
  kv (.bool true),
  kv (.bool true)]
set_option maxRecDepth 100000 in
set_option maxHeartbeats 4000000 in
theorem jl_hops (Gd Gf Gh Gj Gl Gn Gp Gr Gt Gv Gx Gz pd pf ph pj pl pp pt : Nat) (T0 : Tmp → Value) (W : World) (hT4 : T0 4 = .pointer (some ⟨Gd, 0, none⟩)) (hT5 : T0 5 = .int .i64 0) (hT6 : T0 6 = .pointer (some ⟨Gf, 0, none⟩)) (hT7 : T0 7 = .int .i64 0) (hT8 : T0 8 = .pointer (some ⟨Gh, 0, none⟩)) (hT9 : T0 9 = .int .i64 0) (hT10 : T0 10 = .pointer (some ⟨Gj, 0, none⟩)) (hT11 : T0 11 = .int .i64 0) (hT12 : T0 12 = .pointer (some ⟨Gl, 0, none⟩)) (hT13 : T0 13 = .int .i64 0) (hT14 : T0 14 = .pointer (some ⟨Gn, 0, none⟩)) (hT15 : T0 15 = .int .i64 1) (hT16 : T0 16 = .pointer (some ⟨Gp, 0, none⟩)) (hT17 : T0 17 = .int .i64 0) (hT18 : T0 18 = .pointer (some ⟨Gr, 0, none⟩)) (hT19 : T0 19 = .int .i64 1) (hT20 : T0 20 = .pointer (some ⟨Gt, 0, none⟩)) (hT21 : T0 21 = .int .i64 0) (hT22 : T0 22 = .pointer (some ⟨Gv, 0, none⟩)) (hT23 : T0 23 = .int .i64 5) (hT24 : T0 24 = .pointer (some ⟨Gx, 0, none⟩)) (hT25 : T0 25 = .int .i64 5) (hT26 : T0 26 = .pointer (some ⟨Gz, 0, none⟩)) (hT27 : T0 27 = .int .i64 5) (hBd : BxM W Gd 1 2 (some ⟨pd, 0, none⟩) 3 3) (hXd : Ex W pd 3 [[(1, 0)], [(2, 1)], [(1, 1)]]) (hBf : BxM W Gf 1 4 (some ⟨pf, 0, none⟩) 2 2) (hXf : Ex W pf 2 [[(1, 0)], [(0, 3)]]) (hBh : BxM W Gh 1 2 (some ⟨ph, 0, none⟩) 2 2) (hXh : Ex W ph 2 [[(1, 1)], [(0, 0)]]) (hBj : BxM W Gj 1 1 (some ⟨pj, 0, none⟩) 1 1) (hXj : Ex W pj 1 [[(0, 0)]]) (hBl : BxM W Gl 1 1 (some ⟨pl, 0, none⟩) 2 2) (hXl : Ex W pl 2 [[(1, 0)], [(1, 0)]]) (hBn : BxM W Gn 0 0 none 0 0) (hBp : BxM W Gp 1 2 (some ⟨pp, 0, none⟩) 2 2) (hXp : Ex W pp 2 [[(1, 1)], [(1, 0)]]) (hBr : BxM W Gr 0 0 none 0 0) (hBt : BxM W Gt 1 2 (some ⟨pt, 0, none⟩) 3 3) (hXt : Ex W pt 3 [[(1, 0)], [(0, 1)], [((-1), (-1))]]) (hBv : BxM W Gv 0 0 none 0 0) (hBx : BxM W Gx 0 0 none 0 0) (hBz : BxM W Gz 0 0 none 0 0) :
    HopAll Try.prog W jds T0 (jPH pd pf ph pj pl pp pt) 0 jl16.toList := by
  refine ⟨⟨hop_load rfl rfl hT4 hBd rfl rfl, Or.inl rfl⟩, ?_⟩
  refine ⟨⟨hop_outer rfl rfl hT5 rfl rfl, Or.inl rfl⟩, ?_⟩
  refine ⟨⟨hop_edge rfl rfl rfl, Or.inl rfl⟩, ?_⟩
  refine ⟨⟨hop_row (j := 2) rfl rfl rfl rfl rfl rfl, Or.inl rfl⟩, ?_⟩
  refine ⟨⟨hop_edge rfl rfl rfl, Or.inl rfl⟩, ?_⟩
  refine ⟨⟨hop_row (j := 4) rfl rfl rfl rfl rfl rfl, Or.inl rfl⟩, ?_⟩
  refine ⟨⟨hop_edge rfl rfl rfl, Or.inl rfl⟩, ?_⟩
  refine ⟨⟨hop_row (j := 6) rfl rfl rfl rfl rfl rfl, Or.inl rfl⟩, ?_⟩
  refine ⟨⟨hop_rows3 (j0 := 3) (j1 := 5) (j2 := 7) rfl (by decide) rfl rfl rfl rfl rfl rfl rfl rfl rfl rfl rfl, Or.inl rfl⟩, ?_⟩
  refine ⟨⟨hop_build (j := 8) rfl rfl rfl rfl rfl rfl, Or.inl rfl⟩, ?_⟩
  refine ⟨⟨hop_machine (rs := [[(1, 0)], [(2, 1)], [(1, 1)]]) (j := 0) (j1 := 1) (j2 := 9) rfl hXd rfl rfl rfl rfl rfl rfl rfl rfl rfl rfl rfl, Or.inl rfl⟩, ?_⟩
  refine ⟨⟨hop_move (j := 10) (Or.inl rfl) rfl rfl rfl rfl rfl, Or.inl rfl⟩, ?_⟩
  refine ⟨⟨hop_load rfl rfl hT6 hBf rfl rfl, Or.inr ⟨11, 128, rfl, rfl, rfl, rfl⟩⟩, ?_⟩
  refine ⟨⟨hop_outer rfl rfl hT7 rfl rfl, Or.inr ⟨11, 128, rfl, rfl, rfl, rfl⟩⟩, ?_⟩
  refine ⟨⟨hop_edge rfl rfl rfl, Or.inr ⟨11, 128, rfl, rfl, rfl, rfl⟩⟩, ?_⟩
  refine ⟨⟨hop_row (j := 14) rfl rfl rfl rfl rfl rfl, Or.inr ⟨11, 128, rfl, rfl, rfl, rfl⟩⟩, ?_⟩
  refine ⟨⟨hop_edge rfl rfl rfl, Or.inr ⟨11, 128, rfl, rfl, rfl, rfl⟩⟩, ?_⟩
  refine ⟨⟨hop_row (j := 16) rfl rfl rfl rfl rfl rfl, Or.inr ⟨11, 128, rfl, rfl, rfl, rfl⟩⟩, ?_⟩
  refine ⟨⟨hop_rows2 (j0 := 15) (j1 := 17) rfl (by decide) rfl rfl rfl rfl rfl rfl rfl rfl, Or.inr ⟨11, 128, rfl, rfl, rfl, rfl⟩⟩, ?_⟩
  refine ⟨⟨hop_build (j := 18) rfl rfl rfl rfl rfl rfl, Or.inr ⟨11, 128, rfl, rfl, rfl, rfl⟩⟩, ?_⟩
  refine ⟨⟨hop_machine (rs := [[(1, 0)], [(0, 3)]]) (j := 12) (j1 := 13) (j2 := 19) rfl hXf rfl rfl rfl rfl rfl rfl rfl rfl rfl rfl rfl, Or.inr ⟨11, 128, rfl, rfl, rfl, rfl⟩⟩, ?_⟩
  refine ⟨⟨hop_pick (j := 11) (k := 20) rfl rfl rfl rfl rfl rfl rfl rfl rfl, Or.inl rfl⟩, ?_⟩
  refine ⟨⟨hop_move (j := 21) (Or.inl rfl) rfl rfl rfl rfl rfl, Or.inl rfl⟩, ?_⟩
  refine ⟨⟨hop_load rfl rfl hT8 hBh rfl rfl, Or.inr ⟨22, 139, rfl, rfl, rfl, rfl⟩⟩, ?_⟩
  refine ⟨⟨hop_outer rfl rfl hT9 rfl rfl, Or.inr ⟨22, 139, rfl, rfl, rfl, rfl⟩⟩, ?_⟩
  refine ⟨⟨hop_edge rfl rfl rfl, Or.inr ⟨22, 139, rfl, rfl, rfl, rfl⟩⟩, ?_⟩
  refine ⟨⟨hop_row (j := 25) rfl rfl rfl rfl rfl rfl, Or.inr ⟨22, 139, rfl, rfl, rfl, rfl⟩⟩, ?_⟩
  refine ⟨⟨hop_edge rfl rfl rfl, Or.inr ⟨22, 139, rfl, rfl, rfl, rfl⟩⟩, ?_⟩
  refine ⟨⟨hop_row (j := 27) rfl rfl rfl rfl rfl rfl, Or.inr ⟨22, 139, rfl, rfl, rfl, rfl⟩⟩, ?_⟩
  refine ⟨⟨hop_rows2 (j0 := 26) (j1 := 28) rfl (by decide) rfl rfl rfl rfl rfl rfl rfl rfl, Or.inr ⟨22, 139, rfl, rfl, rfl, rfl⟩⟩, ?_⟩
  refine ⟨⟨hop_build (j := 29) rfl rfl rfl rfl rfl rfl, Or.inr ⟨22, 139, rfl, rfl, rfl, rfl⟩⟩, ?_⟩
  refine ⟨⟨hop_machine (rs := [[(1, 1)], [(0, 0)]]) (j := 23) (j1 := 24) (j2 := 30) rfl hXh rfl rfl rfl rfl rfl rfl rfl rfl rfl rfl rfl, Or.inr ⟨22, 139, rfl, rfl, rfl, rfl⟩⟩, ?_⟩
  refine ⟨⟨hop_pick (j := 22) (k := 31) rfl rfl rfl rfl rfl rfl rfl rfl rfl, Or.inl rfl⟩, ?_⟩
  refine ⟨⟨hop_move (j := 32) (Or.inl rfl) rfl rfl rfl rfl rfl, Or.inl rfl⟩, ?_⟩
  refine ⟨⟨hop_load rfl rfl hT10 hBj rfl rfl, Or.inr ⟨33, 150, rfl, rfl, rfl, rfl⟩⟩, ?_⟩
  refine ⟨⟨hop_outer rfl rfl hT11 rfl rfl, Or.inr ⟨33, 150, rfl, rfl, rfl, rfl⟩⟩, ?_⟩
  refine ⟨⟨hop_edge rfl rfl rfl, Or.inr ⟨33, 150, rfl, rfl, rfl, rfl⟩⟩, ?_⟩
  refine ⟨⟨hop_row (j := 36) rfl rfl rfl rfl rfl rfl, Or.inr ⟨33, 150, rfl, rfl, rfl, rfl⟩⟩, ?_⟩
  refine ⟨⟨hop_rows1 (j0 := 37) rfl (by decide) rfl rfl rfl rfl rfl, Or.inr ⟨33, 150, rfl, rfl, rfl, rfl⟩⟩, ?_⟩
  refine ⟨⟨hop_build (j := 38) rfl rfl rfl rfl rfl rfl, Or.inr ⟨33, 150, rfl, rfl, rfl, rfl⟩⟩, ?_⟩
  refine ⟨⟨hop_machine (rs := [[(0, 0)]]) (j := 34) (j1 := 35) (j2 := 39) rfl hXj rfl rfl rfl rfl rfl rfl rfl rfl rfl rfl rfl, Or.inr ⟨33, 150, rfl, rfl, rfl, rfl⟩⟩, ?_⟩
  refine ⟨⟨hop_pick (j := 33) (k := 40) rfl rfl rfl rfl rfl rfl rfl rfl rfl, Or.inl rfl⟩, ?_⟩
  refine ⟨⟨hop_move (j := 41) (Or.inl rfl) rfl rfl rfl rfl rfl, Or.inl rfl⟩, ?_⟩
  refine ⟨⟨hop_load rfl rfl hT12 hBl rfl rfl, Or.inr ⟨42, 159, rfl, rfl, rfl, rfl⟩⟩, ?_⟩
  refine ⟨⟨hop_outer rfl rfl hT13 rfl rfl, Or.inr ⟨42, 159, rfl, rfl, rfl, rfl⟩⟩, ?_⟩
  refine ⟨⟨hop_edge rfl rfl rfl, Or.inr ⟨42, 159, rfl, rfl, rfl, rfl⟩⟩, ?_⟩
  refine ⟨⟨hop_row (j := 45) rfl rfl rfl rfl rfl rfl, Or.inr ⟨42, 159, rfl, rfl, rfl, rfl⟩⟩, ?_⟩
  refine ⟨⟨hop_edge rfl rfl rfl, Or.inr ⟨42, 159, rfl, rfl, rfl, rfl⟩⟩, ?_⟩
  refine ⟨⟨hop_row (j := 47) rfl rfl rfl rfl rfl rfl, Or.inr ⟨42, 159, rfl, rfl, rfl, rfl⟩⟩, ?_⟩
  refine ⟨⟨hop_rows2 (j0 := 46) (j1 := 48) rfl (by decide) rfl rfl rfl rfl rfl rfl rfl rfl, Or.inr ⟨42, 159, rfl, rfl, rfl, rfl⟩⟩, ?_⟩
  refine ⟨⟨hop_build (j := 49) rfl rfl rfl rfl rfl rfl, Or.inr ⟨42, 159, rfl, rfl, rfl, rfl⟩⟩, ?_⟩
  refine ⟨⟨hop_machine (rs := [[(1, 0)], [(1, 0)]]) (j := 43) (j1 := 44) (j2 := 50) rfl hXl rfl rfl rfl rfl rfl rfl rfl rfl rfl rfl rfl, Or.inr ⟨42, 159, rfl, rfl, rfl, rfl⟩⟩, ?_⟩
  refine ⟨⟨hop_pick (j := 42) (k := 51) rfl rfl rfl rfl rfl rfl rfl rfl rfl, Or.inl rfl⟩, ?_⟩
  refine ⟨⟨hop_move (j := 52) (Or.inl rfl) rfl rfl rfl rfl rfl, Or.inl rfl⟩, ?_⟩
  refine ⟨⟨hop_load rfl rfl hT14 hBn rfl rfl, Or.inr ⟨53, 170, rfl, rfl, rfl, rfl⟩⟩, ?_⟩
  refine ⟨⟨hop_outer rfl rfl hT15 rfl rfl, Or.inr ⟨53, 170, rfl, rfl, rfl, rfl⟩⟩, ?_⟩
  refine ⟨⟨hop_nothing (j := 54) (j1 := 55) rfl rfl rfl rfl rfl rfl rfl rfl rfl, Or.inr ⟨53, 170, rfl, rfl, rfl, rfl⟩⟩, ?_⟩
  refine ⟨⟨hop_pick (j := 53) (k := 56) rfl rfl rfl rfl rfl rfl rfl rfl rfl, Or.inl rfl⟩, ?_⟩
  refine ⟨⟨hop_move (j := 57) (Or.inl rfl) rfl rfl rfl rfl rfl, Or.inl rfl⟩, ?_⟩
  refine ⟨⟨hop_load rfl rfl hT16 hBp rfl rfl, Or.inr ⟨58, 175, rfl, rfl, rfl, rfl⟩⟩, ?_⟩
  refine ⟨⟨hop_outer rfl rfl hT17 rfl rfl, Or.inr ⟨58, 175, rfl, rfl, rfl, rfl⟩⟩, ?_⟩
  refine ⟨⟨hop_edge rfl rfl rfl, Or.inr ⟨58, 175, rfl, rfl, rfl, rfl⟩⟩, ?_⟩
  refine ⟨⟨hop_row (j := 61) rfl rfl rfl rfl rfl rfl, Or.inr ⟨58, 175, rfl, rfl, rfl, rfl⟩⟩, ?_⟩
  refine ⟨⟨hop_edge rfl rfl rfl, Or.inr ⟨58, 175, rfl, rfl, rfl, rfl⟩⟩, ?_⟩
  refine ⟨⟨hop_row (j := 63) rfl rfl rfl rfl rfl rfl, Or.inr ⟨58, 175, rfl, rfl, rfl, rfl⟩⟩, ?_⟩
  refine ⟨⟨hop_rows2 (j0 := 62) (j1 := 64) rfl (by decide) rfl rfl rfl rfl rfl rfl rfl rfl, Or.inr ⟨58, 175, rfl, rfl, rfl, rfl⟩⟩, ?_⟩
  refine ⟨⟨hop_build (j := 65) rfl rfl rfl rfl rfl rfl, Or.inr ⟨58, 175, rfl, rfl, rfl, rfl⟩⟩, ?_⟩
  refine ⟨⟨hop_machine (rs := [[(1, 1)], [(1, 0)]]) (j := 59) (j1 := 60) (j2 := 66) rfl hXp rfl rfl rfl rfl rfl rfl rfl rfl rfl rfl rfl, Or.inr ⟨58, 175, rfl, rfl, rfl, rfl⟩⟩, ?_⟩
  refine ⟨⟨hop_pick (j := 58) (k := 67) rfl rfl rfl rfl rfl rfl rfl rfl rfl, Or.inl rfl⟩, ?_⟩
  refine ⟨⟨hop_move (j := 68) (Or.inl rfl) rfl rfl rfl rfl rfl, Or.inl rfl⟩, ?_⟩
  refine ⟨⟨hop_load rfl rfl hT18 hBr rfl rfl, Or.inr ⟨69, 186, rfl, rfl, rfl, rfl⟩⟩, ?_⟩
  refine ⟨⟨hop_outer rfl rfl hT19 rfl rfl, Or.inr ⟨69, 186, rfl, rfl, rfl, rfl⟩⟩, ?_⟩
  refine ⟨⟨hop_nothing (j := 70) (j1 := 71) rfl rfl rfl rfl rfl rfl rfl rfl rfl, Or.inr ⟨69, 186, rfl, rfl, rfl, rfl⟩⟩, ?_⟩
  refine ⟨⟨hop_pick (j := 69) (k := 72) rfl rfl rfl rfl rfl rfl rfl rfl rfl, Or.inl rfl⟩, ?_⟩
  refine ⟨⟨hop_move (j := 73) (Or.inl rfl) rfl rfl rfl rfl rfl, Or.inl rfl⟩, ?_⟩
  refine ⟨⟨hop_load rfl rfl hT20 hBt rfl rfl, Or.inr ⟨74, 191, rfl, rfl, rfl, rfl⟩⟩, ?_⟩
  refine ⟨⟨hop_outer rfl rfl hT21 rfl rfl, Or.inr ⟨74, 191, rfl, rfl, rfl, rfl⟩⟩, ?_⟩
  refine ⟨⟨hop_edge rfl rfl rfl, Or.inr ⟨74, 191, rfl, rfl, rfl, rfl⟩⟩, ?_⟩
  refine ⟨⟨hop_row (j := 77) rfl rfl rfl rfl rfl rfl, Or.inr ⟨74, 191, rfl, rfl, rfl, rfl⟩⟩, ?_⟩
  refine ⟨⟨hop_edge rfl rfl rfl, Or.inr ⟨74, 191, rfl, rfl, rfl, rfl⟩⟩, ?_⟩
  refine ⟨⟨hop_row (j := 79) rfl rfl rfl rfl rfl rfl, Or.inr ⟨74, 191, rfl, rfl, rfl, rfl⟩⟩, ?_⟩
  refine ⟨⟨hop_edge rfl rfl rfl, Or.inr ⟨74, 191, rfl, rfl, rfl, rfl⟩⟩, ?_⟩
  refine ⟨⟨hop_row (j := 81) rfl rfl rfl rfl rfl rfl, Or.inr ⟨74, 191, rfl, rfl, rfl, rfl⟩⟩, ?_⟩
  refine ⟨⟨hop_rows3 (j0 := 78) (j1 := 80) (j2 := 82) rfl (by decide) rfl rfl rfl rfl rfl rfl rfl rfl rfl rfl rfl, Or.inr ⟨74, 191, rfl, rfl, rfl, rfl⟩⟩, ?_⟩
  refine ⟨⟨hop_build (j := 83) rfl rfl rfl rfl rfl rfl, Or.inr ⟨74, 191, rfl, rfl, rfl, rfl⟩⟩, ?_⟩
  refine ⟨⟨hop_machine (rs := [[(1, 0)], [(0, 1)], [((-1), (-1))]]) (j := 75) (j1 := 76) (j2 := 84) rfl hXt rfl rfl rfl rfl rfl rfl rfl rfl rfl rfl rfl, Or.inr ⟨74, 191, rfl, rfl, rfl, rfl⟩⟩, ?_⟩
  refine ⟨⟨hop_pick (j := 74) (k := 85) rfl rfl rfl rfl rfl rfl rfl rfl rfl, Or.inl rfl⟩, ?_⟩
  refine ⟨⟨hop_move (j := 86) (Or.inl rfl) rfl rfl rfl rfl rfl, Or.inl rfl⟩, ?_⟩
  refine ⟨⟨hop_load rfl rfl hT22 hBv rfl rfl, Or.inr ⟨87, 204, rfl, rfl, rfl, rfl⟩⟩, ?_⟩
  refine ⟨⟨hop_outer rfl rfl hT23 rfl rfl, Or.inr ⟨87, 204, rfl, rfl, rfl, rfl⟩⟩, ?_⟩
  refine ⟨⟨hop_nothing (j := 88) (j1 := 89) rfl rfl rfl rfl rfl rfl rfl rfl rfl, Or.inr ⟨87, 204, rfl, rfl, rfl, rfl⟩⟩, ?_⟩
  refine ⟨⟨hop_pick (j := 87) (k := 90) rfl rfl rfl rfl rfl rfl rfl rfl rfl, Or.inl rfl⟩, ?_⟩
  refine ⟨⟨hop_move (j := 91) (Or.inl rfl) rfl rfl rfl rfl rfl, Or.inl rfl⟩, ?_⟩
  refine ⟨⟨hop_load rfl rfl hT24 hBx rfl rfl, Or.inr ⟨92, 209, rfl, rfl, rfl, rfl⟩⟩, ?_⟩
  refine ⟨⟨hop_outer rfl rfl hT25 rfl rfl, Or.inr ⟨92, 209, rfl, rfl, rfl, rfl⟩⟩, ?_⟩
  refine ⟨⟨hop_nothing (j := 93) (j1 := 94) rfl rfl rfl rfl rfl rfl rfl rfl rfl, Or.inr ⟨92, 209, rfl, rfl, rfl, rfl⟩⟩, ?_⟩
  refine ⟨⟨hop_pick (j := 92) (k := 95) rfl rfl rfl rfl rfl rfl rfl rfl rfl, Or.inl rfl⟩, ?_⟩
  refine ⟨⟨hop_move (j := 96) (Or.inl rfl) rfl rfl rfl rfl rfl, Or.inl rfl⟩, ?_⟩
  refine ⟨⟨hop_load rfl rfl hT26 hBz rfl rfl, Or.inr ⟨97, 214, rfl, rfl, rfl, rfl⟩⟩, ?_⟩
  refine ⟨⟨hop_outer rfl rfl hT27 rfl rfl, Or.inr ⟨97, 214, rfl, rfl, rfl, rfl⟩⟩, ?_⟩
  refine ⟨⟨hop_nothing (j := 98) (j1 := 99) rfl rfl rfl rfl rfl rfl rfl rfl rfl, Or.inr ⟨97, 214, rfl, rfl, rfl, rfl⟩⟩, ?_⟩
  refine ⟨⟨hop_pick (j := 97) (k := 100) rfl rfl rfl rfl rfl rfl rfl rfl rfl, Or.inl rfl⟩, ?_⟩
  refine ⟨⟨hop_move (j := 101) (Or.inr rfl) rfl rfl rfl rfl rfl, Or.inl rfl⟩, ?_⟩
  trivial
set_option maxRecDepth 100000 in
set_option maxHeartbeats 4000000 in
theorem jlives_walk (w : World) : Calls Try.prog 24 #[] w fun e w' => e = .returned (.bool true) ∧ Below w.heap.size w w' := by
  have s0 : MT w w [] := MT.start
  go_enter Try.func24, Try.ntmps24
  go_wp2_with fail
  refine (jedge_any 1 0 _).mono ?_
  rintro e w1 ⟨rfl, hb⟩
  have s1 := MT.next s0 hb
  clear s0
  clear hb
  have s2 := MK.putPJ (MT.alloc s1 (.cells #[.int .i64 1, .int .i64 0] 27)) (rdp_litJ w1 [(1, 0)] _ rfl)
  clear s1
  go_wp2_with fail
  refine (jedge_any 0 1 _).mono ?_
  rintro e w2 ⟨rfl, hb⟩
  have s3 := MT.next s2 hb
  clear s2
  clear hb
  have s4 := MK.putPJ (MT.alloc s3 (.cells #[.int .i64 0, .int .i64 1] 27)) (rdp_litJ w2 [(0, 1)] _ rfl)
  clear s3
  have s5 := MK.putR (MT.alloc s4 (.cells #[.slice (some ⟨w1.heap.size, 0, none⟩) 1 1, .slice (some ⟨w2.heap.size, 0, none⟩) 1 1] 29))
    (by
      have h := rdr_cellsJ (w2.alloc (.cells #[.int .i64 0, .int .i64 1] 27)) [[(1, 0)], [(0, 1)]] #[.slice (some ⟨w1.heap.size, 0, none⟩) 1 1, .slice (some ⟨w2.heap.size, 0, none⟩) 1 1] (fun k row hk => by
        match k, hk with
        | 0, hk => simp at hk; subst hk; exact ⟨⟨w1.heap.size, 0, none⟩, rfl, (MK.get s4 1 rfl), by decide⟩
        | 1, hk => simp at hk; subst hk; exact ⟨⟨w2.heap.size, 0, none⟩, rfl, (MK.get s4 0 rfl), by decide⟩)
      rw [show (w2.alloc (.cells #[.int .i64 0, .int .i64 1] 27)).heap.size = w2.heap.size + 1 by simp] at h
      exact h)
  clear s4
  have s6 := MK.putB (g := w2.heap.size + 1 + 1) (MT.alloc s5 (.cells #[.int .i64 1, .int .i64 2, .slice (some ⟨w2.heap.size + 1, 0, none⟩) 2 2] 24))
    (by
      have h := heap_alloc_new ((w2.alloc (.cells #[.int .i64 0, .int .i64 1] 27)).alloc (.cells #[.slice (some ⟨w1.heap.size, 0, none⟩) 1 1, .slice (some ⟨w2.heap.size, 0, none⟩) 1 1] 29)) (.cells #[.int .i64 1, .int .i64 2, .slice (some ⟨w2.heap.size + 1, 0, none⟩) 2 2] 24)
      rw [show ((w2.alloc (.cells #[.int .i64 0, .int .i64 1] 27)).alloc (.cells #[.slice (some ⟨w1.heap.size, 0, none⟩) 1 1, .slice (some ⟨w2.heap.size, 0, none⟩) 1 1] 29)).heap.size = w2.heap.size + 1 + 1 by simp] at h
      exact h)
  clear s5
  go_upto_region 2 with fail
  obtain ⟨w3, hw⟩ : ∃ q, ((w2.alloc (.cells #[.int .i64 0, .int .i64 1] 27)).alloc (.cells #[.slice (some ⟨w1.heap.size, 0, none⟩) 1 1, .slice (some ⟨w2.heap.size, 0, none⟩) 1 1] 29)).alloc (.cells #[.int .i64 1, .int .i64 2, .slice (some ⟨w2.heap.size + 1, 0, none⟩) 2 2] 24) = q := ⟨_, rfl⟩
  obtain ⟨Gxa, hG⟩ : ∃ G, w2.heap.size + 1 + 1 = G := ⟨_, rfl⟩
  obtain ⟨Qxa, hQ⟩ : ∃ Q, w2.heap.size + 1 = Q := ⟨_, rfl⟩
  rw [hw, hG, hQ] at s6
  rw [hw, hG, hQ]
  clear hw hG hQ
  go_wp2_with fail
  refine (jedge_any 0 0 _).mono ?_
  rintro e w4 ⟨rfl, hb⟩
  have s7 := MT.next s6 hb
  clear s6
  clear hb
  go_wp2_with fail
  refine (jedge_any 1 1 _).mono ?_
  rintro e w5 ⟨rfl, hb⟩
  have s8 := MT.next s7 hb
  clear s7
  clear hb
  have s9 := MK.putPJ (MT.alloc s8 (.cells #[.int .i64 0, .int .i64 0, .int .i64 1, .int .i64 1] 27)) (rdp_litJ w5 [(0, 0), (1, 1)] _ rfl)
  clear s8
  go_wp2_with fail
  refine (jedge_any 0 1 _).mono ?_
  rintro e w6 ⟨rfl, hb⟩
  have s10 := MT.next s9 hb
  clear s9
  clear hb
  go_wp2_with fail
  refine (jedge_any 1 0 _).mono ?_
  rintro e w7 ⟨rfl, hb⟩
  have s11 := MT.next s10 hb
  clear s10
  clear hb
  have s12 := MK.putPJ (MT.alloc s11 (.cells #[.int .i64 0, .int .i64 1, .int .i64 1, .int .i64 0] 27)) (rdp_litJ w7 [(0, 1), (1, 0)] _ rfl)
  clear s11
  have s13 := MK.putR (MT.alloc s12 (.cells #[.slice (some ⟨w5.heap.size, 0, none⟩) 2 2, .slice (some ⟨w7.heap.size, 0, none⟩) 2 2] 29))
    (by
      have h := rdr_cellsJ (w7.alloc (.cells #[.int .i64 0, .int .i64 1, .int .i64 1, .int .i64 0] 27)) [[(0, 0), (1, 1)], [(0, 1), (1, 0)]] #[.slice (some ⟨w5.heap.size, 0, none⟩) 2 2, .slice (some ⟨w7.heap.size, 0, none⟩) 2 2] (fun k row hk => by
        match k, hk with
        | 0, hk => simp at hk; subst hk; exact ⟨⟨w5.heap.size, 0, none⟩, rfl, (MK.get s12 1 rfl), by decide⟩
        | 1, hk => simp at hk; subst hk; exact ⟨⟨w7.heap.size, 0, none⟩, rfl, (MK.get s12 0 rfl), by decide⟩)
      rw [show (w7.alloc (.cells #[.int .i64 0, .int .i64 1, .int .i64 1, .int .i64 0] 27)).heap.size = w7.heap.size + 1 by simp] at h
      exact h)
  clear s12
  have s14 := MK.putB (g := w7.heap.size + 1 + 1) (MT.alloc s13 (.cells #[.int .i64 2, .int .i64 2, .slice (some ⟨w7.heap.size + 1, 0, none⟩) 2 2] 24))
    (by
      have h := heap_alloc_new ((w7.alloc (.cells #[.int .i64 0, .int .i64 1, .int .i64 1, .int .i64 0] 27)).alloc (.cells #[.slice (some ⟨w5.heap.size, 0, none⟩) 2 2, .slice (some ⟨w7.heap.size, 0, none⟩) 2 2] 29)) (.cells #[.int .i64 2, .int .i64 2, .slice (some ⟨w7.heap.size + 1, 0, none⟩) 2 2] 24)
      rw [show ((w7.alloc (.cells #[.int .i64 0, .int .i64 1, .int .i64 1, .int .i64 0] 27)).alloc (.cells #[.slice (some ⟨w5.heap.size, 0, none⟩) 2 2, .slice (some ⟨w7.heap.size, 0, none⟩) 2 2] 29)).heap.size = w7.heap.size + 1 + 1 by simp] at h
      exact h)
  clear s13
  go_upto_region 3 with fail
  obtain ⟨w8, hw⟩ : ∃ q, ((w7.alloc (.cells #[.int .i64 0, .int .i64 1, .int .i64 1, .int .i64 0] 27)).alloc (.cells #[.slice (some ⟨w5.heap.size, 0, none⟩) 2 2, .slice (some ⟨w7.heap.size, 0, none⟩) 2 2] 29)).alloc (.cells #[.int .i64 2, .int .i64 2, .slice (some ⟨w7.heap.size + 1, 0, none⟩) 2 2] 24) = q := ⟨_, rfl⟩
  obtain ⟨Gxb, hG⟩ : ∃ G, w7.heap.size + 1 + 1 = G := ⟨_, rfl⟩
  obtain ⟨Qxb, hQ⟩ : ∃ Q, w7.heap.size + 1 = Q := ⟨_, rfl⟩
  rw [hw, hG, hQ] at s14
  rw [hw, hG, hQ]
  clear hw hG hQ
  go_wp2_with fail
  refine (jedge_any (-1) (-1) _).mono ?_
  rintro e w9 ⟨rfl, hb⟩
  have s15 := MT.next s14 hb
  clear s14
  clear hb
  have s16 := MK.putPJ (MT.alloc s15 (.cells #[.int .i64 (-1), .int .i64 (-1)] 27)) (rdp_litJ w9 [((-1), (-1))] _ rfl)
  clear s15
  have s17 := MK.putR (MT.alloc s16 (.cells #[.slice (some ⟨w9.heap.size, 0, none⟩) 1 1] 29))
    (by
      have h := rdr_cellsJ (w9.alloc (.cells #[.int .i64 (-1), .int .i64 (-1)] 27)) [[((-1), (-1))]] #[.slice (some ⟨w9.heap.size, 0, none⟩) 1 1] (fun k row hk => by
        match k, hk with
        | 0, hk => simp at hk; subst hk; exact ⟨⟨w9.heap.size, 0, none⟩, rfl, (MK.get s16 0 rfl), by decide⟩)
      rw [show (w9.alloc (.cells #[.int .i64 (-1), .int .i64 (-1)] 27)).heap.size = w9.heap.size + 1 by simp] at h
      exact h)
  clear s16
  have s18 := MK.putB (g := w9.heap.size + 1 + 1) (MT.alloc s17 (.cells #[.int .i64 1, .int .i64 1, .slice (some ⟨w9.heap.size + 1, 0, none⟩) 1 1] 24))
    (by
      have h := heap_alloc_new ((w9.alloc (.cells #[.int .i64 (-1), .int .i64 (-1)] 27)).alloc (.cells #[.slice (some ⟨w9.heap.size, 0, none⟩) 1 1] 29)) (.cells #[.int .i64 1, .int .i64 1, .slice (some ⟨w9.heap.size + 1, 0, none⟩) 1 1] 24)
      rw [show ((w9.alloc (.cells #[.int .i64 (-1), .int .i64 (-1)] 27)).alloc (.cells #[.slice (some ⟨w9.heap.size, 0, none⟩) 1 1] 29)).heap.size = w9.heap.size + 1 + 1 by simp] at h
      exact h)
  clear s17
  go_upto_region 4 with fail
  obtain ⟨w10, hw⟩ : ∃ q, ((w9.alloc (.cells #[.int .i64 (-1), .int .i64 (-1)] 27)).alloc (.cells #[.slice (some ⟨w9.heap.size, 0, none⟩) 1 1] 29)).alloc (.cells #[.int .i64 1, .int .i64 1, .slice (some ⟨w9.heap.size + 1, 0, none⟩) 1 1] 24) = q := ⟨_, rfl⟩
  obtain ⟨Gxc, hG⟩ : ∃ G, w9.heap.size + 1 + 1 = G := ⟨_, rfl⟩
  obtain ⟨Qxc, hQ⟩ : ∃ Q, w9.heap.size + 1 = Q := ⟨_, rfl⟩
  rw [hw, hG, hQ] at s18
  rw [hw, hG, hQ]
  clear hw hG hQ
  obtain ⟨b00, b01, b02⟩ := BxM.cells (MK.get s18 7 rfl)
  obtain ⟨b10, b11, b12⟩ := BxM.cells (MK.get s18 3 rfl)
  go_wp2_with fail
  clear b00 b01 b02 b10 b11 b12
  refine (l_ser _ _ _ _ _ (MK.get s18 8 rfl) (MK.get s18 4 rfl)).mono ?_
  rintro e w11 ⟨pd, rfl, hx, hb⟩
  have s19 := MT.next s18 hb
  clear s18
  clear hb
  have s20 := MK.putXJ s19 hx
  clear s19
  clear hx
  have s21 := MK.putB (g := w11.heap.size) (MT.alloc s20 (.cells #[.int .i64 1, .int .i64 2, .slice (some ⟨pd, 0, none⟩) 3 3] 24)) (heap_alloc_new w11 _)
  clear s20
  go_upto_region 5 with fail
  obtain ⟨w12, hw⟩ : ∃ q, w11.alloc (.cells #[.int .i64 1, .int .i64 2, .slice (some ⟨pd, 0, none⟩) 3 3] 24) = q := ⟨_, rfl⟩
  obtain ⟨Gd, hG⟩ : ∃ G, w11.heap.size = G := ⟨_, rfl⟩
  rw [hw, hG] at s21
  rw [hw, hG]
  clear hw hG
  obtain ⟨b00, b01, b02⟩ := BxM.cells (MK.get s21 9 rfl)
  go_wp2_with fail
  clear b00 b01 b02
  refine (l_par _ _ _ _ _ (MK.get s21 10 rfl) (MK.get s21 10 rfl)).mono ?_
  rintro e w13 ⟨pf, rfl, hx, hb⟩
  have s22 := MT.next s21 hb
  clear s21
  clear hb
  have s23 := MK.putXJ s22 hx
  clear s22
  clear hx
  have s24 := MK.putB (g := w13.heap.size) (MT.alloc s23 (.cells #[.int .i64 1, .int .i64 4, .slice (some ⟨pf, 0, none⟩) 2 2] 24)) (heap_alloc_new w13 _)
  clear s23
  go_upto_region 6 with fail
  obtain ⟨w14, hw⟩ : ∃ q, w13.alloc (.cells #[.int .i64 1, .int .i64 4, .slice (some ⟨pf, 0, none⟩) 2 2] 24) = q := ⟨_, rfl⟩
  obtain ⟨Gf, hG⟩ : ∃ G, w13.heap.size = G := ⟨_, rfl⟩
  rw [hw, hG] at s24
  rw [hw, hG]
  clear hw hG
  obtain ⟨b00, b01, b02⟩ := BxM.cells (MK.get s24 11 rfl)
  have s25 := MK.putL (MT.alloc s24 (.cells (ints [0]).toArray 3)) (rd_litJ w14 [0])
  clear s24
  have s26 := MK.putL (MT.alloc s25 (.cells (ints [1, 0]).toArray 3))
    (by
      have h := rd_litJ (w14.alloc (.cells (ints [0]).toArray 3)) [1, 0]
      rw [show (w14.alloc (.cells (ints [0]).toArray 3)).heap.size = w14.heap.size + 1 by simp] at h
      exact h)
  clear s25
  have s27 := MK.putL (MT.alloc s26 (.cells (ints [0, 1]).toArray 3))
    (by
      have h := rd_litJ ((w14.alloc (.cells (ints [0]).toArray 3)).alloc (.cells (ints [1, 0]).toArray 3)) [0, 1]
      rw [show ((w14.alloc (.cells (ints [0]).toArray 3)).alloc (.cells (ints [1, 0]).toArray 3)).heap.size = w14.heap.size + 1 + 1 by simp] at h
      exact h)
  clear s26
  go_wp2_with fail
  clear b00 b01 b02
  refine (l_ren _ _ _ _ _ _ _ _ _ (MK.get s27 15 rfl) (MK.get s27 2 rfl) (MK.get s27 1 rfl) (MK.get s27 0 rfl)).mono ?_
  rintro e w15 ⟨ph, rfl, hx, hb⟩
  have s28 := MT.next s27 hb
  clear s27
  clear hb
  have s29 := MK.putXJ s28 hx
  clear s28
  clear hx
  have s30 := MK.putB (g := w15.heap.size) (MT.alloc s29 (.cells #[.int .i64 1, .int .i64 2, .slice (some ⟨ph, 0, none⟩) 2 2] 24)) (heap_alloc_new w15 _)
  clear s29
  go_upto_region 7 with fail
  obtain ⟨w16, hw⟩ : ∃ q, w15.alloc (.cells #[.int .i64 1, .int .i64 2, .slice (some ⟨ph, 0, none⟩) 2 2] 24) = q := ⟨_, rfl⟩
  obtain ⟨Gh, hG⟩ : ∃ G, w15.heap.size = G := ⟨_, rfl⟩
  rw [hw, hG] at s30
  rw [hw, hG]
  clear hw hG
  obtain ⟨b00, b01, b02⟩ := BxM.cells (MK.get s30 9 rfl)
  go_wp2_with fail
  clear b00 b01 b02
  refine (l_fil0 _ _ _ (MK.get s30 10 rfl)).mono ?_
  rintro e w17 ⟨pj, rfl, hx, hb⟩
  have s31 := MT.next s30 hb
  clear s30
  clear hb
  have s32 := MK.putXJ s31 hx
  clear s31
  clear hx
  have s33 := MK.putB (g := w17.heap.size) (MT.alloc s32 (.cells #[.int .i64 1, .int .i64 1, .slice (some ⟨pj, 0, none⟩) 1 1] 24)) (heap_alloc_new w17 _)
  clear s32
  go_upto_region 8 with fail
  obtain ⟨w18, hw⟩ : ∃ q, w17.alloc (.cells #[.int .i64 1, .int .i64 1, .slice (some ⟨pj, 0, none⟩) 1 1] 24) = q := ⟨_, rfl⟩
  obtain ⟨Gj, hG⟩ : ∃ G, w17.heap.size = G := ⟨_, rfl⟩
  rw [hw, hG] at s33
  rw [hw, hG]
  clear hw hG
  obtain ⟨b00, b01, b02⟩ := BxM.cells (MK.get s33 11 rfl)
  go_wp2_with fail
  clear b00 b01 b02
  refine (l_fil1 _ _ _ (MK.get s33 12 rfl)).mono ?_
  rintro e w19 ⟨pl, rfl, hx, hb⟩
  have s34 := MT.next s33 hb
  clear s33
  clear hb
  have s35 := MK.putXJ s34 hx
  clear s34
  clear hx
  have s36 := MK.putB (g := w19.heap.size) (MT.alloc s35 (.cells #[.int .i64 1, .int .i64 1, .slice (some ⟨pl, 0, none⟩) 2 2] 24)) (heap_alloc_new w19 _)
  clear s35
  go_upto_region 9 with fail
  obtain ⟨w20, hw⟩ : ∃ q, w19.alloc (.cells #[.int .i64 1, .int .i64 1, .slice (some ⟨pl, 0, none⟩) 2 2] 24) = q := ⟨_, rfl⟩
  obtain ⟨Gl, hG⟩ : ∃ G, w19.heap.size = G := ⟨_, rfl⟩
  rw [hw, hG] at s36
  rw [hw, hG]
  clear hw hG
  obtain ⟨b00, b01, b02⟩ := BxM.cells (MK.get s36 13 rfl)
  go_wp2_with fail
  clear b00 b01 b02
  refine (l_fil2 _ _ _ (MK.get s36 14 rfl)).mono ?_
  rintro e w21 ⟨rfl, hb⟩
  have s37 := MT.next s36 hb
  clear s36
  clear hb
  have s38 := MK.putB (g := w21.heap.size) (MT.alloc s37 (.cells #[.int .i64 0, .int .i64 0, .slice none 0 0] 24)) (heap_alloc_new w21 _)
  clear s37
  go_upto_region 10 with fail
  obtain ⟨w22, hw⟩ : ∃ q, w21.alloc (.cells #[.int .i64 0, .int .i64 0, .slice none 0 0] 24) = q := ⟨_, rfl⟩
  obtain ⟨Gn, hG⟩ : ∃ G, w21.heap.size = G := ⟨_, rfl⟩
  rw [hw, hG] at s38
  rw [hw, hG]
  clear hw hG
  obtain ⟨b00, b01, b02⟩ := BxM.cells (MK.get s38 17 rfl)
  have s39 := MK.putL (MT.alloc s38 (.cells (ints [1]).toArray 3)) (rd_litJ w22 [1])
  clear s38
  go_wp2_with fail
  clear b00 b01 b02
  refine (l_res _ _ _ _ _ (MK.get s39 19 rfl) (MK.get s39 0 rfl)).mono ?_
  rintro e w23 ⟨pp, rfl, hx, hb⟩
  have s40 := MT.next s39 hb
  clear s39
  clear hb
  have s41 := MK.putXJ s40 hx
  clear s40
  clear hx
  have s42 := MK.putB (g := w23.heap.size) (MT.alloc s41 (.cells #[.int .i64 1, .int .i64 2, .slice (some ⟨pp, 0, none⟩) 2 2] 24)) (heap_alloc_new w23 _)
  clear s41
  go_upto_region 11 with fail
  obtain ⟨w24, hw⟩ : ∃ q, w23.alloc (.cells #[.int .i64 1, .int .i64 2, .slice (some ⟨pp, 0, none⟩) 2 2] 24) = q := ⟨_, rfl⟩
  obtain ⟨Gp, hG⟩ : ∃ G, w23.heap.size = G := ⟨_, rfl⟩
  rw [hw, hG] at s42
  rw [hw, hG]
  clear hw hG
  obtain ⟨b00, b01, b02⟩ := BxM.cells (MK.get s42 20 rfl)
  have s43 := MK.putL (MT.alloc s42 (.cells (ints [1, 1]).toArray 3)) (rd_litJ w24 [1, 1])
  clear s42
  go_wp2_with fail
  clear b00 b01 b02
  refine (l_res1 _ _ _ _ _ (MK.get s43 22 rfl) (MK.get s43 0 rfl)).mono ?_
  rintro e w25 ⟨rfl, hb⟩
  have s44 := MT.next s43 hb
  clear s43
  clear hb
  have s45 := MK.putB (g := w25.heap.size) (MT.alloc s44 (.cells #[.int .i64 0, .int .i64 0, .slice none 0 0] 24)) (heap_alloc_new w25 _)
  clear s44
  go_upto_region 12 with fail
  obtain ⟨w26, hw⟩ : ∃ q, w25.alloc (.cells #[.int .i64 0, .int .i64 0, .slice none 0 0] 24) = q := ⟨_, rfl⟩
  obtain ⟨Gr, hG⟩ : ∃ G, w25.heap.size = G := ⟨_, rfl⟩
  rw [hw, hG] at s45
  rw [hw, hG]
  clear hw hG
  obtain ⟨b00, b01, b02⟩ := BxM.cells (MK.get s45 26 rfl)
  obtain ⟨b10, b11, b12⟩ := BxM.cells (MK.get s45 19 rfl)
  go_wp2_with fail
  clear b00 b01 b02 b10 b11 b12
  refine (l_uni _ _ _ _ _ (MK.get s45 27 rfl) (MK.get s45 20 rfl)).mono ?_
  rintro e w27 ⟨pt, rfl, hx, hb⟩
  have s46 := MT.next s45 hb
  clear s45
  clear hb
  have s47 := MK.putXJ s46 hx
  clear s46
  clear hx
  have s48 := MK.putB (g := w27.heap.size) (MT.alloc s47 (.cells #[.int .i64 1, .int .i64 2, .slice (some ⟨pt, 0, none⟩) 3 3] 24)) (heap_alloc_new w27 _)
  clear s47
  go_upto_region 13 with fail
  obtain ⟨w28, hw⟩ : ∃ q, w27.alloc (.cells #[.int .i64 1, .int .i64 2, .slice (some ⟨pt, 0, none⟩) 3 3] 24) = q := ⟨_, rfl⟩
  obtain ⟨Gt, hG⟩ : ∃ G, w27.heap.size = G := ⟨_, rfl⟩
  rw [hw, hG] at s48
  rw [hw, hG]
  clear hw hG
  obtain ⟨b00, b01, b02⟩ := BxM.cells (MK.get s48 28 rfl)
  obtain ⟨b10, b11, b12⟩ := BxM.cells (MK.get s48 21 rfl)
  go_wp2_with fail
  clear b00 b01 b02 b10 b11 b12
  refine (l_ser5 _ _ _ _ _ (MK.get s48 29 rfl) (MK.get s48 22 rfl)).mono ?_
  rintro e w29 ⟨rfl, hb⟩
  have s49 := MT.next s48 hb
  clear s48
  clear hb
  have s50 := MK.putB (g := w29.heap.size) (MT.alloc s49 (.cells #[.int .i64 0, .int .i64 0, .slice none 0 0] 24)) (heap_alloc_new w29 _)
  clear s49
  go_upto_region 14 with fail
  obtain ⟨w30, hw⟩ : ∃ q, w29.alloc (.cells #[.int .i64 0, .int .i64 0, .slice none 0 0] 24) = q := ⟨_, rfl⟩
  obtain ⟨Gv, hG⟩ : ∃ G, w29.heap.size = G := ⟨_, rfl⟩
  rw [hw, hG] at s50
  rw [hw, hG]
  clear hw hG
  obtain ⟨b00, b01, b02⟩ := BxM.cells (MK.get s50 29 rfl)
  obtain ⟨b10, b11, b12⟩ := BxM.cells (MK.get s50 25 rfl)
  go_wp2_with fail
  clear b00 b01 b02 b10 b11 b12
  refine (l_par5 _ _ _ _ _ (MK.get s50 30 rfl) (MK.get s50 26 rfl)).mono ?_
  rintro e w31 ⟨rfl, hb⟩
  have s51 := MT.next s50 hb
  clear s50
  clear hb
  have s52 := MK.putB (g := w31.heap.size) (MT.alloc s51 (.cells #[.int .i64 0, .int .i64 0, .slice none 0 0] 24)) (heap_alloc_new w31 _)
  clear s51
  go_upto_region 15 with fail
  obtain ⟨w32, hw⟩ : ∃ q, w31.alloc (.cells #[.int .i64 0, .int .i64 0, .slice none 0 0] 24) = q := ⟨_, rfl⟩
  obtain ⟨Gx, hG⟩ : ∃ G, w31.heap.size = G := ⟨_, rfl⟩
  rw [hw, hG] at s52
  rw [hw, hG]
  clear hw hG
  obtain ⟨b00, b01, b02⟩ := BxM.cells (MK.get s52 30 rfl)
  go_wp2_with fail
  clear b00 b01 b02
  refine (l_ser6 _ _ _ _ _ (MK.get s52 31 rfl) (MK.get s52 31 rfl)).mono ?_
  rintro e w33 ⟨rfl, hb⟩
  have s53 := MT.next s52 hb
  clear s52
  clear hb
  have s54 := MK.putB (g := w33.heap.size) (MT.alloc s53 (.cells #[.int .i64 0, .int .i64 0, .slice none 0 0] 24)) (heap_alloc_new w33 _)
  clear s53
  go_upto_region 16 with fail
  obtain ⟨w34, hw⟩ : ∃ q, w33.alloc (.cells #[.int .i64 0, .int .i64 0, .slice none 0 0] 24) = q := ⟨_, rfl⟩
  obtain ⟨Gz, hG⟩ : ∃ G, w33.heap.size = G := ⟨_, rfl⟩
  rw [hw, hG] at s54
  rw [hw, hG]
  clear hw hG
  have hfin := Lib.hid s54.2.1
  try refine wp_seq ?_
  refine region_hops (n := 219) jds (jPH pd pf ph pj pl pp pt) rfl (by kernel_rfl) (by kernel_rfl) (by kernel_rfl) rfl (fun _ => rfl) (jl_hops Gd Gf Gh Gj Gl Gn Gp Gr Gt Gv Gx Gz pd pf ph pj pl pp pt _ _ rfl rfl rfl rfl rfl rfl rfl rfl rfl rfl rfl rfl rfl rfl rfl rfl rfl rfl rfl rfl rfl rfl rfl rfl (MK.get s54 22 rfl) (MK.get s54 23 rfl) (MK.get s54 20 rfl) (MK.get s54 21 rfl) (MK.get s54 15 rfl) (MK.get s54 16 rfl) (MK.get s54 13 rfl) (MK.get s54 14 rfl) (MK.get s54 11 rfl) (MK.get s54 12 rfl) (MK.get s54 10 rfl) (MK.get s54 7 rfl) (MK.get s54 8 rfl) (MK.get s54 5 rfl) (MK.get s54 3 rfl) (MK.get s54 4 rfl) (MK.get s54 2 rfl) (MK.get s54 1 rfl) (MK.get s54 0 rfl)) ?_
  intro a wz hb9 hsz hdf hf hall
  have h0 : a.tmps.getD 0 undef = .bool true := hall 102 _ _ rfl rfl
  have h1 : a.tmps[0]?.getD undef = .bool true := by simpa using h0
  have hfin2 := Lib.hid (below_next hfin.out hb9)
  clear hall hf s54 hb9
  rename_i k1 hHeld
  refine hHeld _ _ (wp_ret ?_)
  change bodyPost _ _ _ .ret _ wz
  refine bodyPost_ret (v := .bool true) (by simp [results, Try.f24, go_sem, h1]) hdf ?_
  exact ⟨rfl, hfin2.out⟩
end Go.Proofs.Ytgafpmgdpigliaa
