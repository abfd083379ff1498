/-
  No cell of these rows narrows 'for every input' (looked for: loops, veiled, ifaces, maps, wideKeys, modest, calm, conditions, laid).
  DERIVED. THE GIVEN ROWS OF THIS SEAT. 3 by the template 'for every input the law returns true; each argument reads behind the call as it read before'; 0 by the template 'total and deterministic' (their statements: YtgcibmdohifiaaaTotals.lean).
  GIVEN WITH THE SEED: the statements are not yours to turn. If you find one false, say at which input.
  Laid BY PROGRAM, IN A SANDBOX (cutbox-rows.mjs): the forced cells as the released guide's own fill.sh prints them over the translation 6466c79531302cb7… (all of the seat's roots in one cut). By AI agents, Wed Nov 11 2026. No macro, syntax, notation, axiom, sorry.
-/
import Derived.Test.YtgcibmdohifiaaaChecked
import GoSem.Claim
import GoSem.ClaimJoined
import GoSem.ClaimMapViews
import Derived.JoinedTies
import Derived.KernelRfl
namespace Go.Proofs.Ytgcibmdohifiaaa
/- THE CELL 'sum', in the pinned program and in every row, IS THE sha256 OF THE DUMP (.gsa) THAT YtgcibmdohifiaaaProg.lean LOADS. Nothing in Lean hashes anything: it is a label: what it is worth is what the hold of that sum in a sandbox is worth. -/
noncomputable def Try.pinned : Pinned := { name := "ytgcibmdohifiaaa", sum := "6466c79531302cb7d3cacfd7cf5503be7922fc6240a2230d70f68aaaa8daf3c3", checked := Try.checked }
namespace Rows
def none {H : Type} : Left H := { results := [], args := [] }

/-- 'escribanolaw02.LetterKnown': WHATEVER THE INPUT: true; the input reads as it did. -/
def letterKnownSpec : ChangeSpec := { name := "letterKnown", fn := fun _ => fun
  | [] => { results := [.lit (.bool true)], args := [] }
  | _ => none }
def letterKnownRow : OpenClaim := { program := "ytgcibmdohifiaaa", sum := "6466c79531302cb7d3cacfd7cf5503be7922fc6240a2230d70f68aaaa8daf3c3", func := "escribano/escribanolaw02.LetterKnown", spec := "letterKnown", inPlace := ["internal/abi.NoEscape"], unfollowed := true, recurses := true, plainKeys := false, apart := false }
def LetterKnownSaid : Prop := letterKnownRow.holds Try.pinned (OpenSpec.ofChange letterKnownSpec)

/-- ITS FALSE NEIGHBOUR: 'it returns false'. Refute it at one input. -/
def letterKnownWrong : ChangeSpec := { name := "letterKnown", fn := fun _ => fun
  | [] => { results := [.lit (.bool false)], args := [] }
  | _ => none }
def LetterKnownWrongFalsely : Prop := letterKnownRow.holds Try.pinned (OpenSpec.ofChange letterKnownWrong)

/-- 'escribanolaw02.LetterFewest': WHATEVER THE INPUT: true; the input reads as it did. -/
def letterFewestSpec : ChangeSpec := { name := "letterFewest", fn := fun _ => fun
  | [d1, d2, d3] => { results := [.lit (.bool true)], args := [d1, d2, d3] }
  | _ => none }
def letterFewestRow : OpenClaim := { program := "ytgcibmdohifiaaa", sum := "6466c79531302cb7d3cacfd7cf5503be7922fc6240a2230d70f68aaaa8daf3c3", func := "escribano/escribanolaw02.LetterFewest", spec := "letterFewest", inPlace := ["internal/abi.NoEscape"], unfollowed := true, recurses := true, plainKeys := false, apart := false }
def LetterFewestSaid : Prop := letterFewestRow.holds Try.pinned (OpenSpec.ofChange letterFewestSpec)

/-- ITS FALSE NEIGHBOUR: 'it returns false'. Refute it at one input. -/
def letterFewestWrong : ChangeSpec := { name := "letterFewest", fn := fun _ => fun
  | [d1, d2, d3] => { results := [.lit (.bool false)], args := [d1, d2, d3] }
  | _ => none }
def LetterFewestWrongFalsely : Prop := letterFewestRow.holds Try.pinned (OpenSpec.ofChange letterFewestWrong)

/-- 'escribanolaw02.LetterBack': WHATEVER THE INPUT: true; the input reads as it did. -/
def letterBackSpec : ChangeSpec := { name := "letterBack", fn := fun _ => fun
  | [d1, d2, d3] => { results := [.lit (.bool true)], args := [d1, d2, d3] }
  | _ => none }
def letterBackRow : OpenClaim := { program := "ytgcibmdohifiaaa", sum := "6466c79531302cb7d3cacfd7cf5503be7922fc6240a2230d70f68aaaa8daf3c3", func := "escribano/escribanolaw02.LetterBack", spec := "letterBack", inPlace := ["internal/abi.NoEscape"], unfollowed := true, recurses := true, plainKeys := false, apart := false }
def LetterBackSaid : Prop := letterBackRow.holds Try.pinned (OpenSpec.ofChange letterBackSpec)

/-- ITS FALSE NEIGHBOUR: 'it returns false'. Refute it at one input. -/
def letterBackWrong : ChangeSpec := { name := "letterBack", fn := fun _ => fun
  | [d1, d2, d3] => { results := [.lit (.bool false)], args := [d1, d2, d3] }
  | _ => none }
def LetterBackWrongFalsely : Prop := letterBackRow.holds Try.pinned (OpenSpec.ofChange letterBackWrong)

/- THE SECOND FORM. 'bulk': how many values and letters a reading holds, each counted each time it is reached (what is shared counts as often as it is met; a slice's spare places count too). A statement '..UptoSaid' is the law's where the arguments, and the package variables that the reading takes, are together of bulk at most 1048576: NARROWER than '..Said'. Prove '..Said' where nothing that the law and all that it calls make is longer than what came in: it says more and counts as full. Else prove '..UptoSaid'. A law counts once. -/
mutual
def uptoBulk {H : Type} : DataW H → Nat
  | .lit (.string bytes) => bytes.length + 1
  | .lit _ => 1
  | .nil => 1
  | .ptr d => uptoBulk d + 1
  | .slice elems spare => uptoBulkAll elems + uptoBulkAll spare + 1
  | .agg parts => uptoBulkAll parts + 1
  | .iface _ d => uptoBulk d + 1
  | .map entries => uptoBulkEntries entries + 1
  | .held _ => 1
def uptoBulkAll {H : Type} : List (DataW H) → Nat
  | [] => 0
  | d :: r => uptoBulk d + uptoBulkAll r
def uptoBulkEntries {H : Type} : List (Lit × DataW H) → Nat
  | [] => 0
  | x :: r => uptoBulkEntry x + uptoBulkEntries r
def uptoBulkEntry {H : Type} : Lit × DataW H → Nat
  | (.string bytes, d) => bytes.length + uptoBulk d + 1
  | (_, d) => uptoBulk d + 1
 end
def uptoSmall : (H : Type) → List (DataW H) → Bool := fun _ ds => decide (uptoBulkAll ds ≤ 1048576)
def OpenSpec.upto (s : _root_.Go.ChangeSpec) : _root_.Go.OpenSpec := { _root_.Go.OpenSpec.ofChange s with cond := some uptoSmall }

/-- 'escribanolaw02.LetterKnown', WHERE WHAT IT READS IS OF BULK AT MOST 1048576: true; the input reads as it did. -/
def letterKnownUptoRow : OpenClaim := { program := "ytgcibmdohifiaaa", sum := "6466c79531302cb7d3cacfd7cf5503be7922fc6240a2230d70f68aaaa8daf3c3", func := "escribano/escribanolaw02.LetterKnown", spec := "letterKnown", inPlace := ["internal/abi.NoEscape"], unfollowed := true, recurses := true, plainKeys := false, apart := false, narrowed := true }
def LetterKnownUptoSaid : Prop := letterKnownUptoRow.holds Try.pinned (OpenSpec.upto letterKnownSpec)

/-- 'escribanolaw02.LetterFewest', WHERE WHAT IT READS IS OF BULK AT MOST 1048576: true; the input reads as it did. -/
def letterFewestUptoRow : OpenClaim := { program := "ytgcibmdohifiaaa", sum := "6466c79531302cb7d3cacfd7cf5503be7922fc6240a2230d70f68aaaa8daf3c3", func := "escribano/escribanolaw02.LetterFewest", spec := "letterFewest", inPlace := ["internal/abi.NoEscape"], unfollowed := true, recurses := true, plainKeys := false, apart := false, narrowed := true }
def LetterFewestUptoSaid : Prop := letterFewestUptoRow.holds Try.pinned (OpenSpec.upto letterFewestSpec)

/-- 'escribanolaw02.LetterBack', WHERE WHAT IT READS IS OF BULK AT MOST 1048576: true; the input reads as it did. -/
def letterBackUptoRow : OpenClaim := { program := "ytgcibmdohifiaaa", sum := "6466c79531302cb7d3cacfd7cf5503be7922fc6240a2230d70f68aaaa8daf3c3", func := "escribano/escribanolaw02.LetterBack", spec := "letterBack", inPlace := ["internal/abi.NoEscape"], unfollowed := true, recurses := true, plainKeys := false, apart := false, narrowed := true }
def LetterBackUptoSaid : Prop := letterBackUptoRow.holds Try.pinned (OpenSpec.upto letterBackSpec)

end Rows
end Go.Proofs.Ytgcibmdohifiaaa
