/-
  The program's functions on machines keep what the laws' walks hold them to. No statement is proved here.
-/
import Derived.Test.YtiohfflkolopeaaMd6
import Derived.Test.YtiohfflkolopeaaMd10
import Derived.Test.YtiohfflkolopeaaMd11
import Derived.Test.YtiohfflkolopeaaMd12
import Derived.Test.YtiohfflkolopeaaMd14
namespace Go.Proofs.Ytiohfflkolopeaa
open Go.RowKit

/-- What a world must keep for the program's functions: nothing. -/
def Env (_ : World) : Prop := True
theorem pm_all : Pm Env where
  keep := fun _ _ => trivial
  check := fun i o rs A n c w _ hr hn hb hl => pcheck_any i o rs A n c w hr hn hb hl
  complete := fun i o rs A n c w _ hr hn hb hl => pcomplete_any i o rs A n c w hr hn hb hl
  connected := fun i o rs A n c w _ hr hn hb hl => pconnected_any i o rs A n c w hr hn hb hl
  transitions := fun i o rs A n c w _ hr hn hb hl => ptransitions_any i o rs A n c w hr hn hb hl
  undefined := fun i o rs A n c w _ hr hn hb hl => pundefined_any i o rs A n c w hr hn hb hl
  step := fun i o s k rs A n c w _ hr hn hb hl => pstep_any i o s k rs A n c w hr hn hb hl
  run := fun i o s rs ws A W n c k d w _ hr hw hn hb hl hk hkb => prun_any i o s rs ws A W n c k d w hr hw hn hb hl hk hkb
  after := fun i o s rs ws A W n c k d w _ hr hw hn hb hl hk hkb => pafter_any i o s rs ws A W n c k d w hr hw hn hb hl hk hkb
  with_ := fun i o s k x y rs A n c w _ hr hn hb hl => pwith_any i o s k x y rs A n c w hr hn hb hl
  same := fun i o i' o' rs qs A B n c k d w _ hr hq hn hb hl hk hkb hql => psame_any i o i' o' rs qs A B n c k d w hr hq hn hb hl hk hkb hql
end Go.Proofs.Ytiohfflkolopeaa
