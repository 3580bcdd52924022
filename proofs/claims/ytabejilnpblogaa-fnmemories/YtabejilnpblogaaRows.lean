/-
  No cell of these rows narrows 'for every input' (looked for: loops, veiled, ifaces, maps, wideKeys, modest, calm, conditions, laid).
  DERIVED. THE GIVEN ROWS OF THIS SEAT. 3 by the template 'for every input the law returns true; each argument reads behind the call as it read before'; 0 by the template 'total and deterministic' (their statements: YtabejilnpblogaaTotals.lean).
  GIVEN WITH THE SEED: the statements are not yours to turn. If you find one false, say at which input.
  Laid BY PROGRAM, IN A SANDBOX (cutbox-rows.mjs): the forced cells as the released guide's own fill.sh prints them over the translation 5494a21f2792a2ef… (all of the seat's roots in one cut). By AI agents, Wed Nov 11 2026. No macro, syntax, notation, axiom, sorry.
-/
import Derived.Test.YtabejilnpblogaaChecked
import GoSem.Claim
import GoSem.ClaimJoined
import GoSem.ClaimMapViews
import Derived.JoinedTies
import Derived.KernelRfl
namespace Go.Proofs.Ytabejilnpblogaa
/- THE CELL 'sum', in the pinned program and in every row, IS THE sha256 OF THE DUMP (.gsa) THAT YtabejilnpblogaaProg.lean LOADS. Nothing in Lean hashes anything: it is a label: what it is worth is what the hold of that sum in a sandbox is worth. -/
noncomputable def Try.pinned : Pinned := { name := "ytabejilnpblogaa", sum := "5494a21f2792a2ef6e89dca207a35e5f3f9634ca564c2ba1e13db35b371ac462", checked := Try.checked }
namespace Rows
def none {H : Type} : Left H := { results := [], args := [] }

/-- 'laws.FnMemories': WHATEVER THE INPUT: true; the input reads as it did. -/
def fnMemoriesSpec : ChangeSpec := { name := "fnMemories", fn := fun _ => fun
  | [d] => { results := [.lit (.bool true)], args := [d] }
  | _ => none }
def fnMemoriesRow : OpenClaim := { program := "ytabejilnpblogaa", sum := "5494a21f2792a2ef6e89dca207a35e5f3f9634ca564c2ba1e13db35b371ac462", func := "loop.example/g00423/laws.FnMemories", spec := "fnMemories", unfollowed := true, recurses := true, apart := false }
def FnMemoriesSaid : Prop := fnMemoriesRow.holds Try.pinned (OpenSpec.ofChange fnMemoriesSpec)

/-- ITS FALSE NEIGHBOUR: 'it returns false'. Refute it at one input. -/
def fnMemoriesWrong : ChangeSpec := { name := "fnMemories", fn := fun _ => fun
  | [d] => { results := [.lit (.bool false)], args := [d] }
  | _ => none }
def FnMemoriesWrongFalsely : Prop := fnMemoriesRow.holds Try.pinned (OpenSpec.ofChange fnMemoriesWrong)

/-- 'laws.FnMemoriesTold': WHATEVER THE INPUT: true; the input reads as it did. -/
def fnMemoriesToldSpec : ChangeSpec := { name := "fnMemoriesTold", fn := fun _ => fun
  | [d] => { results := [.lit (.bool true)], args := [d] }
  | _ => none }
def fnMemoriesToldRow : OpenClaim := { program := "ytabejilnpblogaa", sum := "5494a21f2792a2ef6e89dca207a35e5f3f9634ca564c2ba1e13db35b371ac462", func := "loop.example/g00423/laws.FnMemoriesTold", spec := "fnMemoriesTold", unfollowed := true, recurses := true, apart := false }
def FnMemoriesToldSaid : Prop := fnMemoriesToldRow.holds Try.pinned (OpenSpec.ofChange fnMemoriesToldSpec)

/-- ITS FALSE NEIGHBOUR: 'it returns false'. Refute it at one input. -/
def fnMemoriesToldWrong : ChangeSpec := { name := "fnMemoriesTold", fn := fun _ => fun
  | [d] => { results := [.lit (.bool false)], args := [d] }
  | _ => none }
def FnMemoriesToldWrongFalsely : Prop := fnMemoriesToldRow.holds Try.pinned (OpenSpec.ofChange fnMemoriesToldWrong)

/-- 'laws.FnExactSameEnding': WHATEVER THE INPUT: true; the input reads as it did. -/
def fnExactSameEndingSpec : ChangeSpec := { name := "fnExactSameEnding", fn := fun _ => fun
  | [d1, d2] => { results := [.lit (.bool true)], args := [d1, d2] }
  | _ => none }
def fnExactSameEndingRow : OpenClaim := { program := "ytabejilnpblogaa", sum := "5494a21f2792a2ef6e89dca207a35e5f3f9634ca564c2ba1e13db35b371ac462", func := "loop.example/g00423/laws.FnExactSameEnding", spec := "fnExactSameEnding", apart := false }
def FnExactSameEndingSaid : Prop := fnExactSameEndingRow.holds Try.pinned (OpenSpec.ofChange fnExactSameEndingSpec)

/-- ITS FALSE NEIGHBOUR: 'it returns false'. Refute it at one input. -/
def fnExactSameEndingWrong : ChangeSpec := { name := "fnExactSameEnding", fn := fun _ => fun
  | [d1, d2] => { results := [.lit (.bool false)], args := [d1, d2] }
  | _ => none }
def FnExactSameEndingWrongFalsely : Prop := fnExactSameEndingRow.holds Try.pinned (OpenSpec.ofChange fnExactSameEndingWrong)

/- THE SECOND FORM. 'bulk': how many values and letters a reading holds, each counted each time it is reached (what is shared counts as often as it is met; a slice's spare places count too). A statement '..UptoSaid' is the law's where the arguments, and the package variables that the reading takes, are together of bulk at most 1048576: NARROWER than '..Said'. Prove '..Said' where nothing that the law and all that it calls make is longer than what came in: it says more and counts as full. Else prove '..UptoSaid'. A law counts once. -/
mutual
def uptoBulk {H : Type} : DataW H → Nat
  | .lit (.string bytes) => bytes.length + 1
  | .lit _ => 1
  | .nil => 1
  | .ptr d => uptoBulk d + 1
  | .slice elems spare => uptoBulkAll elems + uptoBulkAll spare + 1
  | .agg parts => uptoBulkAll parts + 1
  | .iface _ d => uptoBulk d + 1
  | .map entries => uptoBulkEntries entries + 1
  | .held _ => 1
def uptoBulkAll {H : Type} : List (DataW H) → Nat
  | [] => 0
  | d :: r => uptoBulk d + uptoBulkAll r
def uptoBulkEntries {H : Type} : List (Lit × DataW H) → Nat
  | [] => 0
  | x :: r => uptoBulkEntry x + uptoBulkEntries r
def uptoBulkEntry {H : Type} : Lit × DataW H → Nat
  | (.string bytes, d) => bytes.length + uptoBulk d + 1
  | (_, d) => uptoBulk d + 1
 end
def uptoSmall : (H : Type) → List (DataW H) → Bool := fun _ ds => decide (uptoBulkAll ds ≤ 1048576)
def OpenSpec.upto (s : _root_.Go.ChangeSpec) : _root_.Go.OpenSpec := { _root_.Go.OpenSpec.ofChange s with cond := some uptoSmall }

/-- 'laws.FnMemories', WHERE WHAT IT READS IS OF BULK AT MOST 1048576: true; the input reads as it did. -/
def fnMemoriesUptoRow : OpenClaim := { program := "ytabejilnpblogaa", sum := "5494a21f2792a2ef6e89dca207a35e5f3f9634ca564c2ba1e13db35b371ac462", func := "loop.example/g00423/laws.FnMemories", spec := "fnMemories", unfollowed := true, recurses := true, apart := false, narrowed := true }
def FnMemoriesUptoSaid : Prop := fnMemoriesUptoRow.holds Try.pinned (OpenSpec.upto fnMemoriesSpec)

/-- 'laws.FnMemoriesTold', WHERE WHAT IT READS IS OF BULK AT MOST 1048576: true; the input reads as it did. -/
def fnMemoriesToldUptoRow : OpenClaim := { program := "ytabejilnpblogaa", sum := "5494a21f2792a2ef6e89dca207a35e5f3f9634ca564c2ba1e13db35b371ac462", func := "loop.example/g00423/laws.FnMemoriesTold", spec := "fnMemoriesTold", unfollowed := true, recurses := true, apart := false, narrowed := true }
def FnMemoriesToldUptoSaid : Prop := fnMemoriesToldUptoRow.holds Try.pinned (OpenSpec.upto fnMemoriesToldSpec)

/-- 'laws.FnExactSameEnding', WHERE WHAT IT READS IS OF BULK AT MOST 1048576: true; the input reads as it did. -/
def fnExactSameEndingUptoRow : OpenClaim := { program := "ytabejilnpblogaa", sum := "5494a21f2792a2ef6e89dca207a35e5f3f9634ca564c2ba1e13db35b371ac462", func := "loop.example/g00423/laws.FnExactSameEnding", spec := "fnExactSameEnding", apart := false, narrowed := true }
def FnExactSameEndingUptoSaid : Prop := fnExactSameEndingUptoRow.holds Try.pinned (OpenSpec.upto fnExactSameEndingSpec)

end Rows
end Go.Proofs.Ytabejilnpblogaa
