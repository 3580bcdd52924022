/-
  No cell of these rows narrows 'for every input' (looked for: loops, veiled, ifaces, maps, wideKeys, modest, calm, conditions, laid).
  DERIVED. THE GIVEN ROWS OF THIS SEAT. 12 by the template 'for every input the law returns true; each argument reads behind the call as it read before'; 0 by the template 'total and deterministic' (their statements: YtogdofdgkhkcaaaTotals.lean).
  GIVEN WITH THE SEED: the statements are not yours to turn. If you find one false, say at which input.
  Laid BY PROGRAM, IN A SANDBOX (cutbox-rows.mjs): the forced cells as the released guide's own fill.sh prints them over the translation 9a552d93dc89c835… (all of the seat's roots in one cut). By AI agents, Wed Nov 11 2026. No macro, syntax, notation, axiom, sorry.
-/
import Derived.Test.YtogdofdgkhkcaaaChecked
import GoSem.Claim
import GoSem.ClaimJoined
import GoSem.ClaimMapViews
import Derived.JoinedTies
import Derived.KernelRfl
namespace Go.Proofs.Ytogdofdgkhkcaaa
/- THE CELL 'sum', in the pinned program and in every row, IS THE sha256 OF THE DUMP (.gsa) THAT YtogdofdgkhkcaaaProg.lean LOADS. Nothing in Lean hashes anything: it is a label: what it is worth is what the hold of that sum in a sandbox is worth. -/
noncomputable def Try.pinned : Pinned := { name := "ytogdofdgkhkcaaa", sum := "9a552d93dc89c83524b13212507186f61e4a2d30acc259c19f88b73e53a5c6d4", checked := Try.checked }
namespace Rows
def none {H : Type} : Left H := { results := [], args := [] }

/-- 'laws.FnMemories': WHATEVER THE INPUT: true; the input reads as it did. -/
def fnMemoriesSpec : ChangeSpec := { name := "fnMemories", fn := fun _ => fun
  | [d] => { results := [.lit (.bool true)], args := [d] }
  | _ => none }
def fnMemoriesRow : OpenClaim := { program := "ytogdofdgkhkcaaa", sum := "9a552d93dc89c83524b13212507186f61e4a2d30acc259c19f88b73e53a5c6d4", func := "loop.example/g00423/laws.FnMemories", spec := "fnMemories", unfollowed := true, recurses := true, apart := false }
def FnMemoriesSaid : Prop := fnMemoriesRow.holds Try.pinned (OpenSpec.ofChange fnMemoriesSpec)

/-- ITS FALSE NEIGHBOUR: 'it returns false'. Refute it at one input. -/
def fnMemoriesWrong : ChangeSpec := { name := "fnMemories", fn := fun _ => fun
  | [d] => { results := [.lit (.bool false)], args := [d] }
  | _ => none }
def FnMemoriesWrongFalsely : Prop := fnMemoriesRow.holds Try.pinned (OpenSpec.ofChange fnMemoriesWrong)

/-- 'laws.FnMemoriesTold': WHATEVER THE INPUT: true; the input reads as it did. -/
def fnMemoriesToldSpec : ChangeSpec := { name := "fnMemoriesTold", fn := fun _ => fun
  | [d] => { results := [.lit (.bool true)], args := [d] }
  | _ => none }
def fnMemoriesToldRow : OpenClaim := { program := "ytogdofdgkhkcaaa", sum := "9a552d93dc89c83524b13212507186f61e4a2d30acc259c19f88b73e53a5c6d4", func := "loop.example/g00423/laws.FnMemoriesTold", spec := "fnMemoriesTold", unfollowed := true, recurses := true, apart := false }
def FnMemoriesToldSaid : Prop := fnMemoriesToldRow.holds Try.pinned (OpenSpec.ofChange fnMemoriesToldSpec)

/-- ITS FALSE NEIGHBOUR: 'it returns false'. Refute it at one input. -/
def fnMemoriesToldWrong : ChangeSpec := { name := "fnMemoriesTold", fn := fun _ => fun
  | [d] => { results := [.lit (.bool false)], args := [d] }
  | _ => none }
def FnMemoriesToldWrongFalsely : Prop := fnMemoriesToldRow.holds Try.pinned (OpenSpec.ofChange fnMemoriesToldWrong)

/-- 'laws.FnExactMemoryNew': WHATEVER THE INPUT: true; the input reads as it did. -/
def fnExactMemoryNewSpec : ChangeSpec := { name := "fnExactMemoryNew", fn := fun _ => fun
  | [d1, d2] => { results := [.lit (.bool true)], args := [d1, d2] }
  | _ => none }
def fnExactMemoryNewRow : OpenClaim := { program := "ytogdofdgkhkcaaa", sum := "9a552d93dc89c83524b13212507186f61e4a2d30acc259c19f88b73e53a5c6d4", func := "loop.example/g00423/laws.FnExactMemoryNew", spec := "fnExactMemoryNew", apart := false }
def FnExactMemoryNewSaid : Prop := fnExactMemoryNewRow.holds Try.pinned (OpenSpec.ofChange fnExactMemoryNewSpec)

/-- ITS FALSE NEIGHBOUR: 'it returns false'. Refute it at one input. -/
def fnExactMemoryNewWrong : ChangeSpec := { name := "fnExactMemoryNew", fn := fun _ => fun
  | [d1, d2] => { results := [.lit (.bool false)], args := [d1, d2] }
  | _ => none }
def FnExactMemoryNewWrongFalsely : Prop := fnExactMemoryNewRow.holds Try.pinned (OpenSpec.ofChange fnExactMemoryNewWrong)

/-- 'laws.FnExactSpend': WHATEVER THE INPUT: true; the input reads as it did. -/
def fnExactSpendSpec : ChangeSpec := { name := "fnExactSpend", fn := fun _ => fun
  | [d] => { results := [.lit (.bool true)], args := [d] }
  | _ => none }
def fnExactSpendRow : OpenClaim := { program := "ytogdofdgkhkcaaa", sum := "9a552d93dc89c83524b13212507186f61e4a2d30acc259c19f88b73e53a5c6d4", func := "loop.example/g00423/laws.FnExactSpend", spec := "fnExactSpend", unfollowed := true, recurses := true, apart := false }
def FnExactSpendSaid : Prop := fnExactSpendRow.holds Try.pinned (OpenSpec.ofChange fnExactSpendSpec)

/-- ITS FALSE NEIGHBOUR: 'it returns false'. Refute it at one input. -/
def fnExactSpendWrong : ChangeSpec := { name := "fnExactSpend", fn := fun _ => fun
  | [d] => { results := [.lit (.bool false)], args := [d] }
  | _ => none }
def FnExactSpendWrongFalsely : Prop := fnExactSpendRow.holds Try.pinned (OpenSpec.ofChange fnExactSpendWrong)

/-- 'laws.FnExactFresh': WHATEVER THE INPUT: true; the input reads as it did. -/
def fnExactFreshSpec : ChangeSpec := { name := "fnExactFresh", fn := fun _ => fun
  | [d1, d2] => { results := [.lit (.bool true)], args := [d1, d2] }
  | _ => none }
def fnExactFreshRow : OpenClaim := { program := "ytogdofdgkhkcaaa", sum := "9a552d93dc89c83524b13212507186f61e4a2d30acc259c19f88b73e53a5c6d4", func := "loop.example/g00423/laws.FnExactFresh", spec := "fnExactFresh", unfollowed := true, recurses := true, apart := false }
def FnExactFreshSaid : Prop := fnExactFreshRow.holds Try.pinned (OpenSpec.ofChange fnExactFreshSpec)

/-- ITS FALSE NEIGHBOUR: 'it returns false'. Refute it at one input. -/
def fnExactFreshWrong : ChangeSpec := { name := "fnExactFresh", fn := fun _ => fun
  | [d1, d2] => { results := [.lit (.bool false)], args := [d1, d2] }
  | _ => none }
def FnExactFreshWrongFalsely : Prop := fnExactFreshRow.holds Try.pinned (OpenSpec.ofChange fnExactFreshWrong)

/-- 'laws.FnExactMoved': WHATEVER THE INPUT: true; the input reads as it did. -/
def fnExactMovedSpec : ChangeSpec := { name := "fnExactMoved", fn := fun _ => fun
  | [d1, d2] => { results := [.lit (.bool true)], args := [d1, d2] }
  | _ => none }
def fnExactMovedRow : OpenClaim := { program := "ytogdofdgkhkcaaa", sum := "9a552d93dc89c83524b13212507186f61e4a2d30acc259c19f88b73e53a5c6d4", func := "loop.example/g00423/laws.FnExactMoved", spec := "fnExactMoved", unfollowed := true, recurses := true, apart := false }
def FnExactMovedSaid : Prop := fnExactMovedRow.holds Try.pinned (OpenSpec.ofChange fnExactMovedSpec)

/-- ITS FALSE NEIGHBOUR: 'it returns false'. Refute it at one input. -/
def fnExactMovedWrong : ChangeSpec := { name := "fnExactMoved", fn := fun _ => fun
  | [d1, d2] => { results := [.lit (.bool false)], args := [d1, d2] }
  | _ => none }
def FnExactMovedWrongFalsely : Prop := fnExactMovedRow.holds Try.pinned (OpenSpec.ofChange fnExactMovedWrong)

/-- 'laws.FnExactFreed': WHATEVER THE INPUT: true; the input reads as it did. -/
def fnExactFreedSpec : ChangeSpec := { name := "fnExactFreed", fn := fun _ => fun
  | [d1, d2] => { results := [.lit (.bool true)], args := [d1, d2] }
  | _ => none }
def fnExactFreedRow : OpenClaim := { program := "ytogdofdgkhkcaaa", sum := "9a552d93dc89c83524b13212507186f61e4a2d30acc259c19f88b73e53a5c6d4", func := "loop.example/g00423/laws.FnExactFreed", spec := "fnExactFreed", unfollowed := true, recurses := true, apart := false }
def FnExactFreedSaid : Prop := fnExactFreedRow.holds Try.pinned (OpenSpec.ofChange fnExactFreedSpec)

/-- ITS FALSE NEIGHBOUR: 'it returns false'. Refute it at one input. -/
def fnExactFreedWrong : ChangeSpec := { name := "fnExactFreed", fn := fun _ => fun
  | [d1, d2] => { results := [.lit (.bool false)], args := [d1, d2] }
  | _ => none }
def FnExactFreedWrongFalsely : Prop := fnExactFreedRow.holds Try.pinned (OpenSpec.ofChange fnExactFreedWrong)

/-- 'laws.FnExactLooked': WHATEVER THE INPUT: true; the input reads as it did. -/
def fnExactLookedSpec : ChangeSpec := { name := "fnExactLooked", fn := fun _ => fun
  | [d1, d2] => { results := [.lit (.bool true)], args := [d1, d2] }
  | _ => none }
def fnExactLookedRow : OpenClaim := { program := "ytogdofdgkhkcaaa", sum := "9a552d93dc89c83524b13212507186f61e4a2d30acc259c19f88b73e53a5c6d4", func := "loop.example/g00423/laws.FnExactLooked", spec := "fnExactLooked", unfollowed := true, recurses := true, apart := false }
def FnExactLookedSaid : Prop := fnExactLookedRow.holds Try.pinned (OpenSpec.ofChange fnExactLookedSpec)

/-- ITS FALSE NEIGHBOUR: 'it returns false'. Refute it at one input. -/
def fnExactLookedWrong : ChangeSpec := { name := "fnExactLooked", fn := fun _ => fun
  | [d1, d2] => { results := [.lit (.bool false)], args := [d1, d2] }
  | _ => none }
def FnExactLookedWrongFalsely : Prop := fnExactLookedRow.holds Try.pinned (OpenSpec.ofChange fnExactLookedWrong)

/-- 'laws.FnExactWritten': WHATEVER THE INPUT: true; the input reads as it did. -/
def fnExactWrittenSpec : ChangeSpec := { name := "fnExactWritten", fn := fun _ => fun
  | [d1, d2, d3] => { results := [.lit (.bool true)], args := [d1, d2, d3] }
  | _ => none }
def fnExactWrittenRow : OpenClaim := { program := "ytogdofdgkhkcaaa", sum := "9a552d93dc89c83524b13212507186f61e4a2d30acc259c19f88b73e53a5c6d4", func := "loop.example/g00423/laws.FnExactWritten", spec := "fnExactWritten", unfollowed := true, recurses := true, apart := false }
def FnExactWrittenSaid : Prop := fnExactWrittenRow.holds Try.pinned (OpenSpec.ofChange fnExactWrittenSpec)

/-- ITS FALSE NEIGHBOUR: 'it returns false'. Refute it at one input. -/
def fnExactWrittenWrong : ChangeSpec := { name := "fnExactWritten", fn := fun _ => fun
  | [d1, d2, d3] => { results := [.lit (.bool false)], args := [d1, d2, d3] }
  | _ => none }
def FnExactWrittenWrongFalsely : Prop := fnExactWrittenRow.holds Try.pinned (OpenSpec.ofChange fnExactWrittenWrong)

/-- 'laws.FnExactAsked': WHATEVER THE INPUT: true; the input reads as it did. -/
def fnExactAskedSpec : ChangeSpec := { name := "fnExactAsked", fn := fun _ => fun
  | [d] => { results := [.lit (.bool true)], args := [d] }
  | _ => none }
def fnExactAskedRow : OpenClaim := { program := "ytogdofdgkhkcaaa", sum := "9a552d93dc89c83524b13212507186f61e4a2d30acc259c19f88b73e53a5c6d4", func := "loop.example/g00423/laws.FnExactAsked", spec := "fnExactAsked", unfollowed := true, recurses := true, apart := false }
def FnExactAskedSaid : Prop := fnExactAskedRow.holds Try.pinned (OpenSpec.ofChange fnExactAskedSpec)

/-- ITS FALSE NEIGHBOUR: 'it returns false'. Refute it at one input. -/
def fnExactAskedWrong : ChangeSpec := { name := "fnExactAsked", fn := fun _ => fun
  | [d] => { results := [.lit (.bool false)], args := [d] }
  | _ => none }
def FnExactAskedWrongFalsely : Prop := fnExactAskedRow.holds Try.pinned (OpenSpec.ofChange fnExactAskedWrong)

/-- 'laws.FnExactTold': WHATEVER THE INPUT: true; the input reads as it did. -/
def fnExactToldSpec : ChangeSpec := { name := "fnExactTold", fn := fun _ => fun
  | [d1, d2] => { results := [.lit (.bool true)], args := [d1, d2] }
  | _ => none }
def fnExactToldRow : OpenClaim := { program := "ytogdofdgkhkcaaa", sum := "9a552d93dc89c83524b13212507186f61e4a2d30acc259c19f88b73e53a5c6d4", func := "loop.example/g00423/laws.FnExactTold", spec := "fnExactTold", unfollowed := true, recurses := true, apart := false }
def FnExactToldSaid : Prop := fnExactToldRow.holds Try.pinned (OpenSpec.ofChange fnExactToldSpec)

/-- ITS FALSE NEIGHBOUR: 'it returns false'. Refute it at one input. -/
def fnExactToldWrong : ChangeSpec := { name := "fnExactTold", fn := fun _ => fun
  | [d1, d2] => { results := [.lit (.bool false)], args := [d1, d2] }
  | _ => none }
def FnExactToldWrongFalsely : Prop := fnExactToldRow.holds Try.pinned (OpenSpec.ofChange fnExactToldWrong)

/-- 'laws.FnExactSummed': WHATEVER THE INPUT: true; the input reads as it did. -/
def fnExactSummedSpec : ChangeSpec := { name := "fnExactSummed", fn := fun _ => fun
  | [d1, d2, d3] => { results := [.lit (.bool true)], args := [d1, d2, d3] }
  | _ => none }
def fnExactSummedRow : OpenClaim := { program := "ytogdofdgkhkcaaa", sum := "9a552d93dc89c83524b13212507186f61e4a2d30acc259c19f88b73e53a5c6d4", func := "loop.example/g00423/laws.FnExactSummed", spec := "fnExactSummed", unfollowed := true, recurses := true, apart := false }
def FnExactSummedSaid : Prop := fnExactSummedRow.holds Try.pinned (OpenSpec.ofChange fnExactSummedSpec)

/-- ITS FALSE NEIGHBOUR: 'it returns false'. Refute it at one input. -/
def fnExactSummedWrong : ChangeSpec := { name := "fnExactSummed", fn := fun _ => fun
  | [d1, d2, d3] => { results := [.lit (.bool false)], args := [d1, d2, d3] }
  | _ => none }
def FnExactSummedWrongFalsely : Prop := fnExactSummedRow.holds Try.pinned (OpenSpec.ofChange fnExactSummedWrong)

/- THE SECOND FORM. 'bulk': how many values and letters a reading holds, each counted each time it is reached (what is shared counts as often as it is met; a slice's spare places count too). A statement '..UptoSaid' is the law's where the arguments, and the package variables that the reading takes, are together of bulk at most 1048576: NARROWER than '..Said'. Prove '..Said' where nothing that the law and all that it calls make is longer than what came in: it says more and counts as full. Else prove '..UptoSaid'. A law counts once. -/
mutual
def uptoBulk {H : Type} : DataW H → Nat
  | .lit (.string bytes) => bytes.length + 1
  | .lit _ => 1
  | .nil => 1
  | .ptr d => uptoBulk d + 1
  | .slice elems spare => uptoBulkAll elems + uptoBulkAll spare + 1
  | .agg parts => uptoBulkAll parts + 1
  | .iface _ d => uptoBulk d + 1
  | .map entries => uptoBulkEntries entries + 1
  | .held _ => 1
def uptoBulkAll {H : Type} : List (DataW H) → Nat
  | [] => 0
  | d :: r => uptoBulk d + uptoBulkAll r
def uptoBulkEntries {H : Type} : List (Lit × DataW H) → Nat
  | [] => 0
  | x :: r => uptoBulkEntry x + uptoBulkEntries r
def uptoBulkEntry {H : Type} : Lit × DataW H → Nat
  | (.string bytes, d) => bytes.length + uptoBulk d + 1
  | (_, d) => uptoBulk d + 1
 end
def uptoSmall : (H : Type) → List (DataW H) → Bool := fun _ ds => decide (uptoBulkAll ds ≤ 1048576)
def OpenSpec.upto (s : _root_.Go.ChangeSpec) : _root_.Go.OpenSpec := { _root_.Go.OpenSpec.ofChange s with cond := some uptoSmall }

/-- 'laws.FnMemories', WHERE WHAT IT READS IS OF BULK AT MOST 1048576: true; the input reads as it did. -/
def fnMemoriesUptoRow : OpenClaim := { program := "ytogdofdgkhkcaaa", sum := "9a552d93dc89c83524b13212507186f61e4a2d30acc259c19f88b73e53a5c6d4", func := "loop.example/g00423/laws.FnMemories", spec := "fnMemories", unfollowed := true, recurses := true, apart := false, narrowed := true }
def FnMemoriesUptoSaid : Prop := fnMemoriesUptoRow.holds Try.pinned (OpenSpec.upto fnMemoriesSpec)

/-- 'laws.FnMemoriesTold', WHERE WHAT IT READS IS OF BULK AT MOST 1048576: true; the input reads as it did. -/
def fnMemoriesToldUptoRow : OpenClaim := { program := "ytogdofdgkhkcaaa", sum := "9a552d93dc89c83524b13212507186f61e4a2d30acc259c19f88b73e53a5c6d4", func := "loop.example/g00423/laws.FnMemoriesTold", spec := "fnMemoriesTold", unfollowed := true, recurses := true, apart := false, narrowed := true }
def FnMemoriesToldUptoSaid : Prop := fnMemoriesToldUptoRow.holds Try.pinned (OpenSpec.upto fnMemoriesToldSpec)

/-- 'laws.FnExactMemoryNew', WHERE WHAT IT READS IS OF BULK AT MOST 1048576: true; the input reads as it did. -/
def fnExactMemoryNewUptoRow : OpenClaim := { program := "ytogdofdgkhkcaaa", sum := "9a552d93dc89c83524b13212507186f61e4a2d30acc259c19f88b73e53a5c6d4", func := "loop.example/g00423/laws.FnExactMemoryNew", spec := "fnExactMemoryNew", apart := false, narrowed := true }
def FnExactMemoryNewUptoSaid : Prop := fnExactMemoryNewUptoRow.holds Try.pinned (OpenSpec.upto fnExactMemoryNewSpec)

/-- 'laws.FnExactSpend', WHERE WHAT IT READS IS OF BULK AT MOST 1048576: true; the input reads as it did. -/
def fnExactSpendUptoRow : OpenClaim := { program := "ytogdofdgkhkcaaa", sum := "9a552d93dc89c83524b13212507186f61e4a2d30acc259c19f88b73e53a5c6d4", func := "loop.example/g00423/laws.FnExactSpend", spec := "fnExactSpend", unfollowed := true, recurses := true, apart := false, narrowed := true }
def FnExactSpendUptoSaid : Prop := fnExactSpendUptoRow.holds Try.pinned (OpenSpec.upto fnExactSpendSpec)

/-- 'laws.FnExactFresh', WHERE WHAT IT READS IS OF BULK AT MOST 1048576: true; the input reads as it did. -/
def fnExactFreshUptoRow : OpenClaim := { program := "ytogdofdgkhkcaaa", sum := "9a552d93dc89c83524b13212507186f61e4a2d30acc259c19f88b73e53a5c6d4", func := "loop.example/g00423/laws.FnExactFresh", spec := "fnExactFresh", unfollowed := true, recurses := true, apart := false, narrowed := true }
def FnExactFreshUptoSaid : Prop := fnExactFreshUptoRow.holds Try.pinned (OpenSpec.upto fnExactFreshSpec)

/-- 'laws.FnExactMoved', WHERE WHAT IT READS IS OF BULK AT MOST 1048576: true; the input reads as it did. -/
def fnExactMovedUptoRow : OpenClaim := { program := "ytogdofdgkhkcaaa", sum := "9a552d93dc89c83524b13212507186f61e4a2d30acc259c19f88b73e53a5c6d4", func := "loop.example/g00423/laws.FnExactMoved", spec := "fnExactMoved", unfollowed := true, recurses := true, apart := false, narrowed := true }
def FnExactMovedUptoSaid : Prop := fnExactMovedUptoRow.holds Try.pinned (OpenSpec.upto fnExactMovedSpec)

/-- 'laws.FnExactFreed', WHERE WHAT IT READS IS OF BULK AT MOST 1048576: true; the input reads as it did. -/
def fnExactFreedUptoRow : OpenClaim := { program := "ytogdofdgkhkcaaa", sum := "9a552d93dc89c83524b13212507186f61e4a2d30acc259c19f88b73e53a5c6d4", func := "loop.example/g00423/laws.FnExactFreed", spec := "fnExactFreed", unfollowed := true, recurses := true, apart := false, narrowed := true }
def FnExactFreedUptoSaid : Prop := fnExactFreedUptoRow.holds Try.pinned (OpenSpec.upto fnExactFreedSpec)

/-- 'laws.FnExactLooked', WHERE WHAT IT READS IS OF BULK AT MOST 1048576: true; the input reads as it did. -/
def fnExactLookedUptoRow : OpenClaim := { program := "ytogdofdgkhkcaaa", sum := "9a552d93dc89c83524b13212507186f61e4a2d30acc259c19f88b73e53a5c6d4", func := "loop.example/g00423/laws.FnExactLooked", spec := "fnExactLooked", unfollowed := true, recurses := true, apart := false, narrowed := true }
def FnExactLookedUptoSaid : Prop := fnExactLookedUptoRow.holds Try.pinned (OpenSpec.upto fnExactLookedSpec)

/-- 'laws.FnExactWritten', WHERE WHAT IT READS IS OF BULK AT MOST 1048576: true; the input reads as it did. -/
def fnExactWrittenUptoRow : OpenClaim := { program := "ytogdofdgkhkcaaa", sum := "9a552d93dc89c83524b13212507186f61e4a2d30acc259c19f88b73e53a5c6d4", func := "loop.example/g00423/laws.FnExactWritten", spec := "fnExactWritten", unfollowed := true, recurses := true, apart := false, narrowed := true }
def FnExactWrittenUptoSaid : Prop := fnExactWrittenUptoRow.holds Try.pinned (OpenSpec.upto fnExactWrittenSpec)

/-- 'laws.FnExactAsked', WHERE WHAT IT READS IS OF BULK AT MOST 1048576: true; the input reads as it did. -/
def fnExactAskedUptoRow : OpenClaim := { program := "ytogdofdgkhkcaaa", sum := "9a552d93dc89c83524b13212507186f61e4a2d30acc259c19f88b73e53a5c6d4", func := "loop.example/g00423/laws.FnExactAsked", spec := "fnExactAsked", unfollowed := true, recurses := true, apart := false, narrowed := true }
def FnExactAskedUptoSaid : Prop := fnExactAskedUptoRow.holds Try.pinned (OpenSpec.upto fnExactAskedSpec)

/-- 'laws.FnExactTold', WHERE WHAT IT READS IS OF BULK AT MOST 1048576: true; the input reads as it did. -/
def fnExactToldUptoRow : OpenClaim := { program := "ytogdofdgkhkcaaa", sum := "9a552d93dc89c83524b13212507186f61e4a2d30acc259c19f88b73e53a5c6d4", func := "loop.example/g00423/laws.FnExactTold", spec := "fnExactTold", unfollowed := true, recurses := true, apart := false, narrowed := true }
def FnExactToldUptoSaid : Prop := fnExactToldUptoRow.holds Try.pinned (OpenSpec.upto fnExactToldSpec)

/-- 'laws.FnExactSummed', WHERE WHAT IT READS IS OF BULK AT MOST 1048576: true; the input reads as it did. -/
def fnExactSummedUptoRow : OpenClaim := { program := "ytogdofdgkhkcaaa", sum := "9a552d93dc89c83524b13212507186f61e4a2d30acc259c19f88b73e53a5c6d4", func := "loop.example/g00423/laws.FnExactSummed", spec := "fnExactSummed", unfollowed := true, recurses := true, apart := false, narrowed := true }
def FnExactSummedUptoSaid : Prop := fnExactSummedUptoRow.holds Try.pinned (OpenSpec.upto fnExactSummedSpec)

end Rows
end Go.Proofs.Ytogdofdgkhkcaaa
