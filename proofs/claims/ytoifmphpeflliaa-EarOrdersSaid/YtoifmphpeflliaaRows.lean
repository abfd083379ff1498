/-
  No cell of these rows narrows 'for every input' (looked for: loops, veiled, ifaces, maps, wideKeys, modest, calm, conditions, laid).
  DERIVED. THE GIVEN ROWS OF THIS SEAT. 8 by the template 'for every input the law returns true; each argument reads behind the call as it read before'; 0 by the template 'total and deterministic' (their statements: YtoifmphpeflliaaTotals.lean).
  GIVEN WITH THE SEED: the statements are not yours to turn. If you find one false, say at which input.
  Laid BY PROGRAM, IN A SANDBOX (cutbox-rows.mjs): the forced cells as the released guide's own fill.sh prints them over the translation e90f20ca6dc358e2… (all of the seat's roots in one cut). By AI agents, Wed Nov 11 2026. No macro, syntax, notation, axiom, sorry.
-/
import Derived.Test.YtoifmphpeflliaaChecked
import GoSem.Claim
import GoSem.ClaimJoined
import GoSem.ClaimMapViews
import Derived.JoinedTies
import Derived.KernelRfl
namespace Go.Proofs.Ytoifmphpeflliaa
/- THE CELL 'sum', in the pinned program and in every row, IS THE sha256 OF THE DUMP (.gsa) THAT YtoifmphpeflliaaProg.lean LOADS. Nothing in Lean hashes anything: it is a label: what it is worth is what the hold of that sum in a sandbox is worth. -/
noncomputable def Try.pinned : Pinned := { name := "ytoifmphpeflliaa", sum := "e90f20ca6dc358e2298cd048842b97cac476482504b2f54ba6ba3545e8a4b584", checked := Try.checked }
namespace Rows
def none {H : Type} : Left H := { results := [], args := [] }

/-- 'escribanolaw01.EarSpells': WHATEVER THE INPUT: true; the input reads as it did. -/
def earSpellsSpec : ChangeSpec := { name := "earSpells", fn := fun _ => fun
  | [d1, d2, d3] => { results := [.lit (.bool true)], args := [d1, d2, d3] }
  | _ => none }
def earSpellsRow : OpenClaim := { program := "ytoifmphpeflliaa", sum := "e90f20ca6dc358e2298cd048842b97cac476482504b2f54ba6ba3545e8a4b584", func := "escribano/escribanolaw01.EarSpells", spec := "earSpells", unfollowed := true, recurses := true, plainKeys := false, apart := false }
def EarSpellsSaid : Prop := earSpellsRow.holds Try.pinned (OpenSpec.ofChange earSpellsSpec)

/-- ITS FALSE NEIGHBOUR: 'it returns false'. Refute it at one input. -/
def earSpellsWrong : ChangeSpec := { name := "earSpells", fn := fun _ => fun
  | [d1, d2, d3] => { results := [.lit (.bool false)], args := [d1, d2, d3] }
  | _ => none }
def EarSpellsWrongFalsely : Prop := earSpellsRow.holds Try.pinned (OpenSpec.ofChange earSpellsWrong)

/-- 'escribanolaw01.EarSpelt': WHATEVER THE INPUT: true; the input reads as it did. -/
def earSpeltSpec : ChangeSpec := { name := "earSpelt", fn := fun _ => fun
  | [d] => { results := [.lit (.bool true)], args := [d] }
  | _ => none }
def earSpeltRow : OpenClaim := { program := "ytoifmphpeflliaa", sum := "e90f20ca6dc358e2298cd048842b97cac476482504b2f54ba6ba3545e8a4b584", func := "escribano/escribanolaw01.EarSpelt", spec := "earSpelt", unfollowed := true, recurses := true, plainKeys := false, apart := false }
def EarSpeltSaid : Prop := earSpeltRow.holds Try.pinned (OpenSpec.ofChange earSpeltSpec)

/-- ITS FALSE NEIGHBOUR: 'it returns false'. Refute it at one input. -/
def earSpeltWrong : ChangeSpec := { name := "earSpelt", fn := fun _ => fun
  | [d] => { results := [.lit (.bool false)], args := [d] }
  | _ => none }
def EarSpeltWrongFalsely : Prop := earSpeltRow.holds Try.pinned (OpenSpec.ofChange earSpeltWrong)

/-- 'escribanolaw01.EarMore': WHATEVER THE INPUT: true; the input reads as it did. -/
def earMoreSpec : ChangeSpec := { name := "earMore", fn := fun _ => fun
  | [d1, d2, d3] => { results := [.lit (.bool true)], args := [d1, d2, d3] }
  | _ => none }
def earMoreRow : OpenClaim := { program := "ytoifmphpeflliaa", sum := "e90f20ca6dc358e2298cd048842b97cac476482504b2f54ba6ba3545e8a4b584", func := "escribano/escribanolaw01.EarMore", spec := "earMore", unfollowed := true, recurses := true, plainKeys := false, apart := false }
def EarMoreSaid : Prop := earMoreRow.holds Try.pinned (OpenSpec.ofChange earMoreSpec)

/-- ITS FALSE NEIGHBOUR: 'it returns false'. Refute it at one input. -/
def earMoreWrong : ChangeSpec := { name := "earMore", fn := fun _ => fun
  | [d1, d2, d3] => { results := [.lit (.bool false)], args := [d1, d2, d3] }
  | _ => none }
def EarMoreWrongFalsely : Prop := earMoreRow.holds Try.pinned (OpenSpec.ofChange earMoreWrong)

/-- 'escribanolaw01.EarOrders': WHATEVER THE INPUT: true; the input reads as it did. -/
def earOrdersSpec : ChangeSpec := { name := "earOrders", fn := fun _ => fun
  | [d1, d2, d3] => { results := [.lit (.bool true)], args := [d1, d2, d3] }
  | _ => none }
def earOrdersRow : OpenClaim := { program := "ytoifmphpeflliaa", sum := "e90f20ca6dc358e2298cd048842b97cac476482504b2f54ba6ba3545e8a4b584", func := "escribano/escribanolaw01.EarOrders", spec := "earOrders", unfollowed := true, recurses := true, plainKeys := false, apart := false }
def EarOrdersSaid : Prop := earOrdersRow.holds Try.pinned (OpenSpec.ofChange earOrdersSpec)

/-- ITS FALSE NEIGHBOUR: 'it returns false'. Refute it at one input. -/
def earOrdersWrong : ChangeSpec := { name := "earOrders", fn := fun _ => fun
  | [d1, d2, d3] => { results := [.lit (.bool false)], args := [d1, d2, d3] }
  | _ => none }
def EarOrdersWrongFalsely : Prop := earOrdersRow.holds Try.pinned (OpenSpec.ofChange earOrdersWrong)

/-- 'escribanolaw02.LetterKnown': WHATEVER THE INPUT: true; the input reads as it did. -/
def letterKnownSpec : ChangeSpec := { name := "letterKnown", fn := fun _ => fun
  | [] => { results := [.lit (.bool true)], args := [] }
  | _ => none }
def letterKnownRow : OpenClaim := { program := "ytoifmphpeflliaa", sum := "e90f20ca6dc358e2298cd048842b97cac476482504b2f54ba6ba3545e8a4b584", func := "escribano/escribanolaw02.LetterKnown", spec := "letterKnown", inPlace := ["internal/abi.NoEscape"], unfollowed := true, recurses := true, plainKeys := false, apart := false }
def LetterKnownSaid : Prop := letterKnownRow.holds Try.pinned (OpenSpec.ofChange letterKnownSpec)

/-- ITS FALSE NEIGHBOUR: 'it returns false'. Refute it at one input. -/
def letterKnownWrong : ChangeSpec := { name := "letterKnown", fn := fun _ => fun
  | [] => { results := [.lit (.bool false)], args := [] }
  | _ => none }
def LetterKnownWrongFalsely : Prop := letterKnownRow.holds Try.pinned (OpenSpec.ofChange letterKnownWrong)

/-- 'escribanolaw02.LetterBack': WHATEVER THE INPUT: true; the input reads as it did. -/
def letterBackSpec : ChangeSpec := { name := "letterBack", fn := fun _ => fun
  | [d1, d2, d3] => { results := [.lit (.bool true)], args := [d1, d2, d3] }
  | _ => none }
def letterBackRow : OpenClaim := { program := "ytoifmphpeflliaa", sum := "e90f20ca6dc358e2298cd048842b97cac476482504b2f54ba6ba3545e8a4b584", func := "escribano/escribanolaw02.LetterBack", spec := "letterBack", inPlace := ["internal/abi.NoEscape"], unfollowed := true, recurses := true, plainKeys := false, apart := false }
def LetterBackSaid : Prop := letterBackRow.holds Try.pinned (OpenSpec.ofChange letterBackSpec)

/-- ITS FALSE NEIGHBOUR: 'it returns false'. Refute it at one input. -/
def letterBackWrong : ChangeSpec := { name := "letterBack", fn := fun _ => fun
  | [d1, d2, d3] => { results := [.lit (.bool false)], args := [d1, d2, d3] }
  | _ => none }
def LetterBackWrongFalsely : Prop := letterBackRow.holds Try.pinned (OpenSpec.ofChange letterBackWrong)

/-- 'escribanolaw02.LetterFewest': WHATEVER THE INPUT: true; the input reads as it did. -/
def letterFewestSpec : ChangeSpec := { name := "letterFewest", fn := fun _ => fun
  | [d1, d2, d3] => { results := [.lit (.bool true)], args := [d1, d2, d3] }
  | _ => none }
def letterFewestRow : OpenClaim := { program := "ytoifmphpeflliaa", sum := "e90f20ca6dc358e2298cd048842b97cac476482504b2f54ba6ba3545e8a4b584", func := "escribano/escribanolaw02.LetterFewest", spec := "letterFewest", inPlace := ["internal/abi.NoEscape"], unfollowed := true, recurses := true, plainKeys := false, apart := false }
def LetterFewestSaid : Prop := letterFewestRow.holds Try.pinned (OpenSpec.ofChange letterFewestSpec)

/-- ITS FALSE NEIGHBOUR: 'it returns false'. Refute it at one input. -/
def letterFewestWrong : ChangeSpec := { name := "letterFewest", fn := fun _ => fun
  | [d1, d2, d3] => { results := [.lit (.bool false)], args := [d1, d2, d3] }
  | _ => none }
def LetterFewestWrongFalsely : Prop := letterFewestRow.holds Try.pinned (OpenSpec.ofChange letterFewestWrong)

/-- 'escribanolaw02.LetterMarks': WHATEVER THE INPUT: true; the input reads as it did. -/
def letterMarksSpec : ChangeSpec := { name := "letterMarks", fn := fun _ => fun
  | [d1, d2, d3] => { results := [.lit (.bool true)], args := [d1, d2, d3] }
  | _ => none }
def letterMarksRow : OpenClaim := { program := "ytoifmphpeflliaa", sum := "e90f20ca6dc358e2298cd048842b97cac476482504b2f54ba6ba3545e8a4b584", func := "escribano/escribanolaw02.LetterMarks", spec := "letterMarks", inPlace := ["internal/abi.NoEscape"], unfollowed := true, recurses := true, plainKeys := false, apart := false }
def LetterMarksSaid : Prop := letterMarksRow.holds Try.pinned (OpenSpec.ofChange letterMarksSpec)

/-- ITS FALSE NEIGHBOUR: 'it returns false'. Refute it at one input. -/
def letterMarksWrong : ChangeSpec := { name := "letterMarks", fn := fun _ => fun
  | [d1, d2, d3] => { results := [.lit (.bool false)], args := [d1, d2, d3] }
  | _ => none }
def LetterMarksWrongFalsely : Prop := letterMarksRow.holds Try.pinned (OpenSpec.ofChange letterMarksWrong)

/- THE SECOND FORM. 'bulk': how many values and letters a reading holds, each counted each time it is reached (what is shared counts as often as it is met; a slice's spare places count too). A statement '..UptoSaid' is the law's where the arguments, and the package variables that the reading takes, are together of bulk at most 1048576: NARROWER than '..Said'. Prove '..Said' where nothing that the law and all that it calls make is longer than what came in: it says more and counts as full. Else prove '..UptoSaid'. A law counts once. -/
mutual
def uptoBulk {H : Type} : DataW H → Nat
  | .lit (.string bytes) => bytes.length + 1
  | .lit _ => 1
  | .nil => 1
  | .ptr d => uptoBulk d + 1
  | .slice elems spare => uptoBulkAll elems + uptoBulkAll spare + 1
  | .agg parts => uptoBulkAll parts + 1
  | .iface _ d => uptoBulk d + 1
  | .map entries => uptoBulkEntries entries + 1
  | .held _ => 1
def uptoBulkAll {H : Type} : List (DataW H) → Nat
  | [] => 0
  | d :: r => uptoBulk d + uptoBulkAll r
def uptoBulkEntries {H : Type} : List (Lit × DataW H) → Nat
  | [] => 0
  | x :: r => uptoBulkEntry x + uptoBulkEntries r
def uptoBulkEntry {H : Type} : Lit × DataW H → Nat
  | (.string bytes, d) => bytes.length + uptoBulk d + 1
  | (_, d) => uptoBulk d + 1
 end
def uptoSmall : (H : Type) → List (DataW H) → Bool := fun _ ds => decide (uptoBulkAll ds ≤ 1048576)
def OpenSpec.upto (s : _root_.Go.ChangeSpec) : _root_.Go.OpenSpec := { _root_.Go.OpenSpec.ofChange s with cond := some uptoSmall }

/-- 'escribanolaw01.EarSpells', WHERE WHAT IT READS IS OF BULK AT MOST 1048576: true; the input reads as it did. -/
def earSpellsUptoRow : OpenClaim := { program := "ytoifmphpeflliaa", sum := "e90f20ca6dc358e2298cd048842b97cac476482504b2f54ba6ba3545e8a4b584", func := "escribano/escribanolaw01.EarSpells", spec := "earSpells", unfollowed := true, recurses := true, plainKeys := false, apart := false, narrowed := true }
def EarSpellsUptoSaid : Prop := earSpellsUptoRow.holds Try.pinned (OpenSpec.upto earSpellsSpec)

/-- 'escribanolaw01.EarSpelt', WHERE WHAT IT READS IS OF BULK AT MOST 1048576: true; the input reads as it did. -/
def earSpeltUptoRow : OpenClaim := { program := "ytoifmphpeflliaa", sum := "e90f20ca6dc358e2298cd048842b97cac476482504b2f54ba6ba3545e8a4b584", func := "escribano/escribanolaw01.EarSpelt", spec := "earSpelt", unfollowed := true, recurses := true, plainKeys := false, apart := false, narrowed := true }
def EarSpeltUptoSaid : Prop := earSpeltUptoRow.holds Try.pinned (OpenSpec.upto earSpeltSpec)

/-- 'escribanolaw01.EarMore', WHERE WHAT IT READS IS OF BULK AT MOST 1048576: true; the input reads as it did. -/
def earMoreUptoRow : OpenClaim := { program := "ytoifmphpeflliaa", sum := "e90f20ca6dc358e2298cd048842b97cac476482504b2f54ba6ba3545e8a4b584", func := "escribano/escribanolaw01.EarMore", spec := "earMore", unfollowed := true, recurses := true, plainKeys := false, apart := false, narrowed := true }
def EarMoreUptoSaid : Prop := earMoreUptoRow.holds Try.pinned (OpenSpec.upto earMoreSpec)

/-- 'escribanolaw01.EarOrders', WHERE WHAT IT READS IS OF BULK AT MOST 1048576: true; the input reads as it did. -/
def earOrdersUptoRow : OpenClaim := { program := "ytoifmphpeflliaa", sum := "e90f20ca6dc358e2298cd048842b97cac476482504b2f54ba6ba3545e8a4b584", func := "escribano/escribanolaw01.EarOrders", spec := "earOrders", unfollowed := true, recurses := true, plainKeys := false, apart := false, narrowed := true }
def EarOrdersUptoSaid : Prop := earOrdersUptoRow.holds Try.pinned (OpenSpec.upto earOrdersSpec)

/-- 'escribanolaw02.LetterKnown', WHERE WHAT IT READS IS OF BULK AT MOST 1048576: true; the input reads as it did. -/
def letterKnownUptoRow : OpenClaim := { program := "ytoifmphpeflliaa", sum := "e90f20ca6dc358e2298cd048842b97cac476482504b2f54ba6ba3545e8a4b584", func := "escribano/escribanolaw02.LetterKnown", spec := "letterKnown", inPlace := ["internal/abi.NoEscape"], unfollowed := true, recurses := true, plainKeys := false, apart := false, narrowed := true }
def LetterKnownUptoSaid : Prop := letterKnownUptoRow.holds Try.pinned (OpenSpec.upto letterKnownSpec)

/-- 'escribanolaw02.LetterBack', WHERE WHAT IT READS IS OF BULK AT MOST 1048576: true; the input reads as it did. -/
def letterBackUptoRow : OpenClaim := { program := "ytoifmphpeflliaa", sum := "e90f20ca6dc358e2298cd048842b97cac476482504b2f54ba6ba3545e8a4b584", func := "escribano/escribanolaw02.LetterBack", spec := "letterBack", inPlace := ["internal/abi.NoEscape"], unfollowed := true, recurses := true, plainKeys := false, apart := false, narrowed := true }
def LetterBackUptoSaid : Prop := letterBackUptoRow.holds Try.pinned (OpenSpec.upto letterBackSpec)

/-- 'escribanolaw02.LetterFewest', WHERE WHAT IT READS IS OF BULK AT MOST 1048576: true; the input reads as it did. -/
def letterFewestUptoRow : OpenClaim := { program := "ytoifmphpeflliaa", sum := "e90f20ca6dc358e2298cd048842b97cac476482504b2f54ba6ba3545e8a4b584", func := "escribano/escribanolaw02.LetterFewest", spec := "letterFewest", inPlace := ["internal/abi.NoEscape"], unfollowed := true, recurses := true, plainKeys := false, apart := false, narrowed := true }
def LetterFewestUptoSaid : Prop := letterFewestUptoRow.holds Try.pinned (OpenSpec.upto letterFewestSpec)

/-- 'escribanolaw02.LetterMarks', WHERE WHAT IT READS IS OF BULK AT MOST 1048576: true; the input reads as it did. -/
def letterMarksUptoRow : OpenClaim := { program := "ytoifmphpeflliaa", sum := "e90f20ca6dc358e2298cd048842b97cac476482504b2f54ba6ba3545e8a4b584", func := "escribano/escribanolaw02.LetterMarks", spec := "letterMarks", inPlace := ["internal/abi.NoEscape"], unfollowed := true, recurses := true, plainKeys := false, apart := false, narrowed := true }
def LetterMarksUptoSaid : Prop := letterMarksUptoRow.holds Try.pinned (OpenSpec.upto letterMarksSpec)

end Rows
end Go.Proofs.Ytoifmphpeflliaa
