/-
  No cell of these rows narrows 'for every input' (looked for: loops, veiled, ifaces, maps, wideKeys, modest, calm, conditions, laid).
  DERIVED. THE GIVEN ROWS OF THIS SEAT. 7 by the template 'for every input the law returns true; each argument reads behind the call as it read before'; 0 by the template 'total and deterministic' (their statements: YtfbkjopidjojeabTotals.lean).
  GIVEN WITH THE SEED: the statements are not yours to turn. If you find one false, say at which input.
  Laid BY PROGRAM, IN A SANDBOX (cutbox-rows.mjs): the forced cells as the released guide's own fill.sh prints them over the translation 1123d50830164ea7… (all of the seat's roots in one cut). By AI agents, Wed Nov 11 2026. No macro, syntax, notation, axiom, sorry.
-/
import Derived.Test.YtfbkjopidjojeabChecked
import GoSem.Claim
import GoSem.ClaimJoined
import GoSem.ClaimMapViews
import Derived.JoinedTies
import Derived.KernelRfl
namespace Go.Proofs.Ytfbkjopidjojeab
/- THE CELL 'sum', in the pinned program and in every row, IS THE sha256 OF THE DUMP (.gsa) THAT YtfbkjopidjojeabProg.lean LOADS. Nothing in Lean hashes anything: it is a label: what it is worth is what the hold of that sum in a sandbox is worth. -/
noncomputable def Try.pinned : Pinned := { name := "ytfbkjopidjojeab", sum := "1123d50830164ea79e6f3382e74e627364e0fa9c3cbfb1fbab97bae1114403d4", checked := Try.checked }
namespace Rows
def none {H : Type} : Left H := { results := [], args := [] }

/-- 'streamskeep.Broken': WHATEVER THE INPUT: true; the input reads as it did. -/
def brokenSpec : ChangeSpec := { name := "broken", fn := fun _ => fun
  | [d] => { results := [.lit (.bool true)], args := [d] }
  | _ => none }
def brokenRow : OpenClaim := { program := "ytfbkjopidjojeab", sum := "1123d50830164ea79e6f3382e74e627364e0fa9c3cbfb1fbab97bae1114403d4", func := "streams/streamskeep.Broken", spec := "broken", apart := false }
def BrokenSaid : Prop := brokenRow.holds Try.pinned (OpenSpec.ofChange brokenSpec)

/-- ITS FALSE NEIGHBOUR: 'it returns false'. Refute it at one input. -/
def brokenWrong : ChangeSpec := { name := "broken", fn := fun _ => fun
  | [d] => { results := [.lit (.bool false)], args := [d] }
  | _ => none }
def BrokenWrongFalsely : Prop := brokenRow.holds Try.pinned (OpenSpec.ofChange brokenWrong)

/-- 'streamskeep.Longer': WHATEVER THE INPUT: true; the input reads as it did. -/
def longerSpec : ChangeSpec := { name := "longer", fn := fun _ => fun
  | [d1, d2, d3, d4] => { results := [.lit (.bool true)], args := [d1, d2, d3, d4] }
  | _ => none }
def longerRow : OpenClaim := { program := "ytfbkjopidjojeab", sum := "1123d50830164ea79e6f3382e74e627364e0fa9c3cbfb1fbab97bae1114403d4", func := "streams/streamskeep.Longer", spec := "longer", apart := false }
def LongerSaid : Prop := longerRow.holds Try.pinned (OpenSpec.ofChange longerSpec)

/-- ITS FALSE NEIGHBOUR: 'it returns false'. Refute it at one input. -/
def longerWrong : ChangeSpec := { name := "longer", fn := fun _ => fun
  | [d1, d2, d3, d4] => { results := [.lit (.bool false)], args := [d1, d2, d3, d4] }
  | _ => none }
def LongerWrongFalsely : Prop := longerRow.holds Try.pinned (OpenSpec.ofChange longerWrong)

/-- 'streamskeep.Asks': WHATEVER THE INPUT: true; the input reads as it did. -/
def asksSpec : ChangeSpec := { name := "asks", fn := fun _ => fun
  | [d1, d2, d3] => { results := [.lit (.bool true)], args := [d1, d2, d3] }
  | _ => none }
def asksRow : OpenClaim := { program := "ytfbkjopidjojeab", sum := "1123d50830164ea79e6f3382e74e627364e0fa9c3cbfb1fbab97bae1114403d4", func := "streams/streamskeep.Asks", spec := "asks", apart := false }
def AsksSaid : Prop := asksRow.holds Try.pinned (OpenSpec.ofChange asksSpec)

/-- ITS FALSE NEIGHBOUR: 'it returns false'. Refute it at one input. -/
def asksWrong : ChangeSpec := { name := "asks", fn := fun _ => fun
  | [d1, d2, d3] => { results := [.lit (.bool false)], args := [d1, d2, d3] }
  | _ => none }
def AsksWrongFalsely : Prop := asksRow.holds Try.pinned (OpenSpec.ofChange asksWrong)

/-- 'streamskeep.Full': WHATEVER THE INPUT: true; the input reads as it did. -/
def fullSpec : ChangeSpec := { name := "full", fn := fun _ => fun
  | [d1, d2, d3] => { results := [.lit (.bool true)], args := [d1, d2, d3] }
  | _ => none }
def fullRow : OpenClaim := { program := "ytfbkjopidjojeab", sum := "1123d50830164ea79e6f3382e74e627364e0fa9c3cbfb1fbab97bae1114403d4", func := "streams/streamskeep.Full", spec := "full", apart := false }
def FullSaid : Prop := fullRow.holds Try.pinned (OpenSpec.ofChange fullSpec)

/-- ITS FALSE NEIGHBOUR: 'it returns false'. Refute it at one input. -/
def fullWrong : ChangeSpec := { name := "full", fn := fun _ => fun
  | [d1, d2, d3] => { results := [.lit (.bool false)], args := [d1, d2, d3] }
  | _ => none }
def FullWrongFalsely : Prop := fullRow.holds Try.pinned (OpenSpec.ofChange fullWrong)

/-- 'streamskeep.Apart': WHATEVER THE INPUT: true; the input reads as it did. -/
def apartSpec : ChangeSpec := { name := "apart", fn := fun _ => fun
  | [d1, d2] => { results := [.lit (.bool true)], args := [d1, d2] }
  | _ => none }
def apartRow : OpenClaim := { program := "ytfbkjopidjojeab", sum := "1123d50830164ea79e6f3382e74e627364e0fa9c3cbfb1fbab97bae1114403d4", func := "streams/streamskeep.Apart", spec := "apart", apart := false }
def ApartSaid : Prop := apartRow.holds Try.pinned (OpenSpec.ofChange apartSpec)

/-- ITS FALSE NEIGHBOUR: 'it returns false'. Refute it at one input. -/
def apartWrong : ChangeSpec := { name := "apart", fn := fun _ => fun
  | [d1, d2] => { results := [.lit (.bool false)], args := [d1, d2] }
  | _ => none }
def ApartWrongFalsely : Prop := apartRow.holds Try.pinned (OpenSpec.ofChange apartWrong)

/-- 'streamskeep.Delayed': WHATEVER THE INPUT: true; the input reads as it did. -/
def delayedSpec : ChangeSpec := { name := "delayed", fn := fun _ => fun
  | [d1, d2, d3] => { results := [.lit (.bool true)], args := [d1, d2, d3] }
  | _ => none }
def delayedRow : OpenClaim := { program := "ytfbkjopidjojeab", sum := "1123d50830164ea79e6f3382e74e627364e0fa9c3cbfb1fbab97bae1114403d4", func := "streams/streamskeep.Delayed", spec := "delayed", recurses := true, apart := false }
def DelayedSaid : Prop := delayedRow.holds Try.pinned (OpenSpec.ofChange delayedSpec)

/-- ITS FALSE NEIGHBOUR: 'it returns false'. Refute it at one input. -/
def delayedWrong : ChangeSpec := { name := "delayed", fn := fun _ => fun
  | [d1, d2, d3] => { results := [.lit (.bool false)], args := [d1, d2, d3] }
  | _ => none }
def DelayedWrongFalsely : Prop := delayedRow.holds Try.pinned (OpenSpec.ofChange delayedWrong)

/-- 'streamskeep.Reckoned': WHATEVER THE INPUT: true; the input reads as it did. -/
def reckonedSpec : ChangeSpec := { name := "reckoned", fn := fun _ => fun
  | [d1, d2] => { results := [.lit (.bool true)], args := [d1, d2] }
  | _ => none }
def reckonedRow : OpenClaim := { program := "ytfbkjopidjojeab", sum := "1123d50830164ea79e6f3382e74e627364e0fa9c3cbfb1fbab97bae1114403d4", func := "streams/streamskeep.Reckoned", spec := "reckoned", apart := false }
def ReckonedSaid : Prop := reckonedRow.holds Try.pinned (OpenSpec.ofChange reckonedSpec)

/-- ITS FALSE NEIGHBOUR: 'it returns false'. Refute it at one input. -/
def reckonedWrong : ChangeSpec := { name := "reckoned", fn := fun _ => fun
  | [d1, d2] => { results := [.lit (.bool false)], args := [d1, d2] }
  | _ => none }
def ReckonedWrongFalsely : Prop := reckonedRow.holds Try.pinned (OpenSpec.ofChange reckonedWrong)

/- THE SECOND FORM. 'bulk': how many values and letters a reading holds, each counted each time it is reached (what is shared counts as often as it is met; a slice's spare places count too). A statement '..UptoSaid' is the law's where the arguments, and the package variables that the reading takes, are together of bulk at most 1048576: NARROWER than '..Said'. Prove '..Said' where nothing that the law and all that it calls make is longer than what came in: it says more and counts as full. Else prove '..UptoSaid'. A law counts once. -/
mutual
def uptoBulk {H : Type} : DataW H → Nat
  | .lit (.string bytes) => bytes.length + 1
  | .lit _ => 1
  | .nil => 1
  | .ptr d => uptoBulk d + 1
  | .slice elems spare => uptoBulkAll elems + uptoBulkAll spare + 1
  | .agg parts => uptoBulkAll parts + 1
  | .iface _ d => uptoBulk d + 1
  | .map entries => uptoBulkEntries entries + 1
  | .held _ => 1
def uptoBulkAll {H : Type} : List (DataW H) → Nat
  | [] => 0
  | d :: r => uptoBulk d + uptoBulkAll r
def uptoBulkEntries {H : Type} : List (Lit × DataW H) → Nat
  | [] => 0
  | x :: r => uptoBulkEntry x + uptoBulkEntries r
def uptoBulkEntry {H : Type} : Lit × DataW H → Nat
  | (.string bytes, d) => bytes.length + uptoBulk d + 1
  | (_, d) => uptoBulk d + 1
 end
def uptoSmall : (H : Type) → List (DataW H) → Bool := fun _ ds => decide (uptoBulkAll ds ≤ 1048576)
def OpenSpec.upto (s : _root_.Go.ChangeSpec) : _root_.Go.OpenSpec := { _root_.Go.OpenSpec.ofChange s with cond := some uptoSmall }

/-- 'streamskeep.Broken', WHERE WHAT IT READS IS OF BULK AT MOST 1048576: true; the input reads as it did. -/
def brokenUptoRow : OpenClaim := { program := "ytfbkjopidjojeab", sum := "1123d50830164ea79e6f3382e74e627364e0fa9c3cbfb1fbab97bae1114403d4", func := "streams/streamskeep.Broken", spec := "broken", apart := false, narrowed := true }
def BrokenUptoSaid : Prop := brokenUptoRow.holds Try.pinned (OpenSpec.upto brokenSpec)

/-- 'streamskeep.Longer', WHERE WHAT IT READS IS OF BULK AT MOST 1048576: true; the input reads as it did. -/
def longerUptoRow : OpenClaim := { program := "ytfbkjopidjojeab", sum := "1123d50830164ea79e6f3382e74e627364e0fa9c3cbfb1fbab97bae1114403d4", func := "streams/streamskeep.Longer", spec := "longer", apart := false, narrowed := true }
def LongerUptoSaid : Prop := longerUptoRow.holds Try.pinned (OpenSpec.upto longerSpec)

/-- 'streamskeep.Asks', WHERE WHAT IT READS IS OF BULK AT MOST 1048576: true; the input reads as it did. -/
def asksUptoRow : OpenClaim := { program := "ytfbkjopidjojeab", sum := "1123d50830164ea79e6f3382e74e627364e0fa9c3cbfb1fbab97bae1114403d4", func := "streams/streamskeep.Asks", spec := "asks", apart := false, narrowed := true }
def AsksUptoSaid : Prop := asksUptoRow.holds Try.pinned (OpenSpec.upto asksSpec)

/-- 'streamskeep.Full', WHERE WHAT IT READS IS OF BULK AT MOST 1048576: true; the input reads as it did. -/
def fullUptoRow : OpenClaim := { program := "ytfbkjopidjojeab", sum := "1123d50830164ea79e6f3382e74e627364e0fa9c3cbfb1fbab97bae1114403d4", func := "streams/streamskeep.Full", spec := "full", apart := false, narrowed := true }
def FullUptoSaid : Prop := fullUptoRow.holds Try.pinned (OpenSpec.upto fullSpec)

/-- 'streamskeep.Apart', WHERE WHAT IT READS IS OF BULK AT MOST 1048576: true; the input reads as it did. -/
def apartUptoRow : OpenClaim := { program := "ytfbkjopidjojeab", sum := "1123d50830164ea79e6f3382e74e627364e0fa9c3cbfb1fbab97bae1114403d4", func := "streams/streamskeep.Apart", spec := "apart", apart := false, narrowed := true }
def ApartUptoSaid : Prop := apartUptoRow.holds Try.pinned (OpenSpec.upto apartSpec)

/-- 'streamskeep.Delayed', WHERE WHAT IT READS IS OF BULK AT MOST 1048576: true; the input reads as it did. -/
def delayedUptoRow : OpenClaim := { program := "ytfbkjopidjojeab", sum := "1123d50830164ea79e6f3382e74e627364e0fa9c3cbfb1fbab97bae1114403d4", func := "streams/streamskeep.Delayed", spec := "delayed", recurses := true, apart := false, narrowed := true }
def DelayedUptoSaid : Prop := delayedUptoRow.holds Try.pinned (OpenSpec.upto delayedSpec)

/-- 'streamskeep.Reckoned', WHERE WHAT IT READS IS OF BULK AT MOST 1048576: true; the input reads as it did. -/
def reckonedUptoRow : OpenClaim := { program := "ytfbkjopidjojeab", sum := "1123d50830164ea79e6f3382e74e627364e0fa9c3cbfb1fbab97bae1114403d4", func := "streams/streamskeep.Reckoned", spec := "reckoned", apart := false, narrowed := true }
def ReckonedUptoSaid : Prop := reckonedUptoRow.holds Try.pinned (OpenSpec.upto reckonedSpec)

end Rows
end Go.Proofs.Ytfbkjopidjojeab
