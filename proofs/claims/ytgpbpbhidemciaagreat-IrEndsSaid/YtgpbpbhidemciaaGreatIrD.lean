/-
  How functions of variables lie in memory. No condition beyond those that each theorem states.
-/
import Derived.Test.YtgpbpbhidemciaaGreatKInts
import Derived.Test.YtgpbpbhidemciaaGreatIrN
import Derived.Test.YtgpbpbhidemciaaGreatProg
import Derived.Laws.OwnMore
import Derived.Deep.AppendLies
import Derived.Deep.Draws
import Derived.Lib.Hide
namespace Go.Proofs.YtgpbpbhidemciaaGreat
open Go.RowKit

/-- An instruction, its arguments' row from there, of that room. -/
def insV (x : Ii) (a : Option Addr) (c : Nat) : Value := .agg #[.int .i64 x.op, .int .i64 x.dst, .int .i64 x.a, .int .i64 x.b, .int .i64 x.imm, .int .i64 x.callee, .slice a x.args.length c, .int .i64 x.many]
def termV (t : Tt) : Value := .agg #[.int .i64 t.kind, .int .i64 t.a, .int .i64 t.t0, .int .i64 t.t1]
def big : Nat := 140737488355328
end Go.Proofs.YtgpbpbhidemciaaGreat
