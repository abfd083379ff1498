/-
  No cell of these rows narrows 'for every input' (looked for: loops, veiled, ifaces, maps, wideKeys, modest, calm, conditions, laid).
  DERIVED. THE GIVEN ROWS OF THIS SEAT. 13 by the template 'for every input the law returns true; each argument reads behind the call as it read before'; 0 by the template 'total and deterministic' (their statements: YtdadffmagfknoaaTotals.lean).
  GIVEN WITH THE SEED: the statements are not yours to turn. If you find one false, say at which input.
  Laid BY PROGRAM, IN A SANDBOX (cutbox-rows.mjs): the forced cells as the released guide's own fill.sh prints them over the translation 0622dd675e651b4d… (all of the seat's roots in one cut). By AI agents, Wed Nov 11 2026. No macro, syntax, notation, axiom, sorry.
-/
import Derived.Test.YtdadffmagfknoaaChecked
import GoSem.Claim
import GoSem.ClaimJoined
import GoSem.ClaimMapViews
import Derived.JoinedTies
import Derived.KernelRfl
namespace Go.Proofs.Ytdadffmagfknoaa
/- THE CELL 'sum', in the pinned program and in every row, IS THE sha256 OF THE DUMP (.gsa) THAT YtdadffmagfknoaaProg.lean LOADS. Nothing in Lean hashes anything: it is a label: what it is worth is what the hold of that sum in a sandbox is worth. -/
noncomputable def Try.pinned : Pinned := { name := "ytdadffmagfknoaa", sum := "0622dd675e651b4dcef1fdaa0bd4c9b66f8ef695a91c8400a66caff56554e9f9", checked := Try.checked }
namespace Rows
def none {H : Type} : Left H := { results := [], args := [] }

/-- 'escribanolaw08.RateFirsts': WHATEVER THE INPUT: true; the input reads as it did. -/
def rateFirstsSpec : ChangeSpec := { name := "rateFirsts", fn := fun _ => fun
  | [d1, d2] => { results := [.lit (.bool true)], args := [d1, d2] }
  | _ => none }
def rateFirstsRow : OpenClaim := { program := "ytdadffmagfknoaa", sum := "0622dd675e651b4dcef1fdaa0bd4c9b66f8ef695a91c8400a66caff56554e9f9", func := "escribano/escribanolaw08.RateFirsts", spec := "rateFirsts", unfollowed := true, recurses := true, plainKeys := false, apart := false }
def RateFirstsSaid : Prop := rateFirstsRow.holds Try.pinned (OpenSpec.ofChange rateFirstsSpec)

/-- ITS FALSE NEIGHBOUR: 'it returns false'. Refute it at one input. -/
def rateFirstsWrong : ChangeSpec := { name := "rateFirsts", fn := fun _ => fun
  | [d1, d2] => { results := [.lit (.bool false)], args := [d1, d2] }
  | _ => none }
def RateFirstsWrongFalsely : Prop := rateFirstsRow.holds Try.pinned (OpenSpec.ofChange rateFirstsWrong)

/-- 'escribanolaw08.RateWorths': WHATEVER THE INPUT: true; the input reads as it did. -/
def rateWorthsSpec : ChangeSpec := { name := "rateWorths", fn := fun _ => fun
  | [d1, d2] => { results := [.lit (.bool true)], args := [d1, d2] }
  | _ => none }
def rateWorthsRow : OpenClaim := { program := "ytdadffmagfknoaa", sum := "0622dd675e651b4dcef1fdaa0bd4c9b66f8ef695a91c8400a66caff56554e9f9", func := "escribano/escribanolaw08.RateWorths", spec := "rateWorths", unfollowed := true, recurses := true, plainKeys := false, apart := false }
def RateWorthsSaid : Prop := rateWorthsRow.holds Try.pinned (OpenSpec.ofChange rateWorthsSpec)

/-- ITS FALSE NEIGHBOUR: 'it returns false'. Refute it at one input. -/
def rateWorthsWrong : ChangeSpec := { name := "rateWorths", fn := fun _ => fun
  | [d1, d2] => { results := [.lit (.bool false)], args := [d1, d2] }
  | _ => none }
def RateWorthsWrongFalsely : Prop := rateWorthsRow.holds Try.pinned (OpenSpec.ofChange rateWorthsWrong)

/-- 'escribanolaw08.RateAgrees': WHATEVER THE INPUT: true; the input reads as it did. -/
def rateAgreesSpec : ChangeSpec := { name := "rateAgrees", fn := fun _ => fun
  | [d1, d2] => { results := [.lit (.bool true)], args := [d1, d2] }
  | _ => none }
def rateAgreesRow : OpenClaim := { program := "ytdadffmagfknoaa", sum := "0622dd675e651b4dcef1fdaa0bd4c9b66f8ef695a91c8400a66caff56554e9f9", func := "escribano/escribanolaw08.RateAgrees", spec := "rateAgrees", unfollowed := true, recurses := true, plainKeys := false, apart := false }
def RateAgreesSaid : Prop := rateAgreesRow.holds Try.pinned (OpenSpec.ofChange rateAgreesSpec)

/-- ITS FALSE NEIGHBOUR: 'it returns false'. Refute it at one input. -/
def rateAgreesWrong : ChangeSpec := { name := "rateAgrees", fn := fun _ => fun
  | [d1, d2] => { results := [.lit (.bool false)], args := [d1, d2] }
  | _ => none }
def RateAgreesWrongFalsely : Prop := rateAgreesRow.holds Try.pinned (OpenSpec.ofChange rateAgreesWrong)

/-- 'escribanolaw08.RateSends': WHATEVER THE INPUT: true; the input reads as it did. -/
def rateSendsSpec : ChangeSpec := { name := "rateSends", fn := fun _ => fun
  | [d1, d2] => { results := [.lit (.bool true)], args := [d1, d2] }
  | _ => none }
def rateSendsRow : OpenClaim := { program := "ytdadffmagfknoaa", sum := "0622dd675e651b4dcef1fdaa0bd4c9b66f8ef695a91c8400a66caff56554e9f9", func := "escribano/escribanolaw08.RateSends", spec := "rateSends", unfollowed := true, recurses := true, plainKeys := false, apart := false }
def RateSendsSaid : Prop := rateSendsRow.holds Try.pinned (OpenSpec.ofChange rateSendsSpec)

/-- ITS FALSE NEIGHBOUR: 'it returns false'. Refute it at one input. -/
def rateSendsWrong : ChangeSpec := { name := "rateSends", fn := fun _ => fun
  | [d1, d2] => { results := [.lit (.bool false)], args := [d1, d2] }
  | _ => none }
def RateSendsWrongFalsely : Prop := rateSendsRow.holds Try.pinned (OpenSpec.ofChange rateSendsWrong)

/-- 'escribanolaw08.RateKnown': WHATEVER THE INPUT: true; the input reads as it did. -/
def rateKnownSpec : ChangeSpec := { name := "rateKnown", fn := fun _ => fun
  | [] => { results := [.lit (.bool true)], args := [] }
  | _ => none }
def rateKnownRow : OpenClaim := { program := "ytdadffmagfknoaa", sum := "0622dd675e651b4dcef1fdaa0bd4c9b66f8ef695a91c8400a66caff56554e9f9", func := "escribano/escribanolaw08.RateKnown", spec := "rateKnown", unfollowed := true, recurses := true, plainKeys := false, apart := false }
def RateKnownSaid : Prop := rateKnownRow.holds Try.pinned (OpenSpec.ofChange rateKnownSpec)

/-- ITS FALSE NEIGHBOUR: 'it returns false'. Refute it at one input. -/
def rateKnownWrong : ChangeSpec := { name := "rateKnown", fn := fun _ => fun
  | [] => { results := [.lit (.bool false)], args := [] }
  | _ => none }
def RateKnownWrongFalsely : Prop := rateKnownRow.holds Try.pinned (OpenSpec.ofChange rateKnownWrong)

/-- 'escribanolaw08.RateTrue': WHATEVER THE INPUT: true; the input reads as it did. -/
def rateTrueSpec : ChangeSpec := { name := "rateTrue", fn := fun _ => fun
  | [d1, d2] => { results := [.lit (.bool true)], args := [d1, d2] }
  | _ => none }
def rateTrueRow : OpenClaim := { program := "ytdadffmagfknoaa", sum := "0622dd675e651b4dcef1fdaa0bd4c9b66f8ef695a91c8400a66caff56554e9f9", func := "escribano/escribanolaw08.RateTrue", spec := "rateTrue", unfollowed := true, recurses := true, plainKeys := false, apart := false }
def RateTrueSaid : Prop := rateTrueRow.holds Try.pinned (OpenSpec.ofChange rateTrueSpec)

/-- ITS FALSE NEIGHBOUR: 'it returns false'. Refute it at one input. -/
def rateTrueWrong : ChangeSpec := { name := "rateTrue", fn := fun _ => fun
  | [d1, d2] => { results := [.lit (.bool false)], args := [d1, d2] }
  | _ => none }
def RateTrueWrongFalsely : Prop := rateTrueRow.holds Try.pinned (OpenSpec.ofChange rateTrueWrong)

/-- 'escribanolaw08.RateFewest': WHATEVER THE INPUT: true; the input reads as it did. -/
def rateFewestSpec : ChangeSpec := { name := "rateFewest", fn := fun _ => fun
  | [d1, d2] => { results := [.lit (.bool true)], args := [d1, d2] }
  | _ => none }
def rateFewestRow : OpenClaim := { program := "ytdadffmagfknoaa", sum := "0622dd675e651b4dcef1fdaa0bd4c9b66f8ef695a91c8400a66caff56554e9f9", func := "escribano/escribanolaw08.RateFewest", spec := "rateFewest", unfollowed := true, recurses := true, plainKeys := false, apart := false }
def RateFewestSaid : Prop := rateFewestRow.holds Try.pinned (OpenSpec.ofChange rateFewestSpec)

/-- ITS FALSE NEIGHBOUR: 'it returns false'. Refute it at one input. -/
def rateFewestWrong : ChangeSpec := { name := "rateFewest", fn := fun _ => fun
  | [d1, d2] => { results := [.lit (.bool false)], args := [d1, d2] }
  | _ => none }
def RateFewestWrongFalsely : Prop := rateFewestRow.holds Try.pinned (OpenSpec.ofChange rateFewestWrong)

/-- 'escribanolaw08.RateMore': WHATEVER THE INPUT: true; the input reads as it did. -/
def rateMoreSpec : ChangeSpec := { name := "rateMore", fn := fun _ => fun
  | [d1, d2] => { results := [.lit (.bool true)], args := [d1, d2] }
  | _ => none }
def rateMoreRow : OpenClaim := { program := "ytdadffmagfknoaa", sum := "0622dd675e651b4dcef1fdaa0bd4c9b66f8ef695a91c8400a66caff56554e9f9", func := "escribano/escribanolaw08.RateMore", spec := "rateMore", unfollowed := true, recurses := true, plainKeys := false, apart := false }
def RateMoreSaid : Prop := rateMoreRow.holds Try.pinned (OpenSpec.ofChange rateMoreSpec)

/-- ITS FALSE NEIGHBOUR: 'it returns false'. Refute it at one input. -/
def rateMoreWrong : ChangeSpec := { name := "rateMore", fn := fun _ => fun
  | [d1, d2] => { results := [.lit (.bool false)], args := [d1, d2] }
  | _ => none }
def RateMoreWrongFalsely : Prop := rateMoreRow.holds Try.pinned (OpenSpec.ofChange rateMoreWrong)

/-- 'escribanolaw08.RateSent': WHATEVER THE INPUT: true; the input reads as it did. -/
def rateSentSpec : ChangeSpec := { name := "rateSent", fn := fun _ => fun
  | [d1, d2, d3] => { results := [.lit (.bool true)], args := [d1, d2, d3] }
  | _ => none }
def rateSentRow : OpenClaim := { program := "ytdadffmagfknoaa", sum := "0622dd675e651b4dcef1fdaa0bd4c9b66f8ef695a91c8400a66caff56554e9f9", func := "escribano/escribanolaw08.RateSent", spec := "rateSent", unfollowed := true, recurses := true, plainKeys := false, apart := false }
def RateSentSaid : Prop := rateSentRow.holds Try.pinned (OpenSpec.ofChange rateSentSpec)

/-- ITS FALSE NEIGHBOUR: 'it returns false'. Refute it at one input. -/
def rateSentWrong : ChangeSpec := { name := "rateSent", fn := fun _ => fun
  | [d1, d2, d3] => { results := [.lit (.bool false)], args := [d1, d2, d3] }
  | _ => none }
def RateSentWrongFalsely : Prop := rateSentRow.holds Try.pinned (OpenSpec.ofChange rateSentWrong)

/-- 'escribanolaw08.RateRound': WHATEVER THE INPUT: true; the input reads as it did. -/
def rateRoundSpec : ChangeSpec := { name := "rateRound", fn := fun _ => fun
  | [d1, d2] => { results := [.lit (.bool true)], args := [d1, d2] }
  | _ => none }
def rateRoundRow : OpenClaim := { program := "ytdadffmagfknoaa", sum := "0622dd675e651b4dcef1fdaa0bd4c9b66f8ef695a91c8400a66caff56554e9f9", func := "escribano/escribanolaw08.RateRound", spec := "rateRound", unfollowed := true, recurses := true, plainKeys := false, apart := false }
def RateRoundSaid : Prop := rateRoundRow.holds Try.pinned (OpenSpec.ofChange rateRoundSpec)

/-- ITS FALSE NEIGHBOUR: 'it returns false'. Refute it at one input. -/
def rateRoundWrong : ChangeSpec := { name := "rateRound", fn := fun _ => fun
  | [d1, d2] => { results := [.lit (.bool false)], args := [d1, d2] }
  | _ => none }
def RateRoundWrongFalsely : Prop := rateRoundRow.holds Try.pinned (OpenSpec.ofChange rateRoundWrong)

/-- 'escribanolaw08.RatePaid': WHATEVER THE INPUT: true; the input reads as it did. -/
def ratePaidSpec : ChangeSpec := { name := "ratePaid", fn := fun _ => fun
  | [d1, d2] => { results := [.lit (.bool true)], args := [d1, d2] }
  | _ => none }
def ratePaidRow : OpenClaim := { program := "ytdadffmagfknoaa", sum := "0622dd675e651b4dcef1fdaa0bd4c9b66f8ef695a91c8400a66caff56554e9f9", func := "escribano/escribanolaw08.RatePaid", spec := "ratePaid", unfollowed := true, recurses := true, plainKeys := false, apart := false }
def RatePaidSaid : Prop := ratePaidRow.holds Try.pinned (OpenSpec.ofChange ratePaidSpec)

/-- ITS FALSE NEIGHBOUR: 'it returns false'. Refute it at one input. -/
def ratePaidWrong : ChangeSpec := { name := "ratePaid", fn := fun _ => fun
  | [d1, d2] => { results := [.lit (.bool false)], args := [d1, d2] }
  | _ => none }
def RatePaidWrongFalsely : Prop := ratePaidRow.holds Try.pinned (OpenSpec.ofChange ratePaidWrong)

/-- 'escribanolaw08.RateStep': WHATEVER THE INPUT: true; the input reads as it did. -/
def rateStepSpec : ChangeSpec := { name := "rateStep", fn := fun _ => fun
  | [d1, d2] => { results := [.lit (.bool true)], args := [d1, d2] }
  | _ => none }
def rateStepRow : OpenClaim := { program := "ytdadffmagfknoaa", sum := "0622dd675e651b4dcef1fdaa0bd4c9b66f8ef695a91c8400a66caff56554e9f9", func := "escribano/escribanolaw08.RateStep", spec := "rateStep", unfollowed := true, recurses := true, plainKeys := false, apart := false }
def RateStepSaid : Prop := rateStepRow.holds Try.pinned (OpenSpec.ofChange rateStepSpec)

/-- ITS FALSE NEIGHBOUR: 'it returns false'. Refute it at one input. -/
def rateStepWrong : ChangeSpec := { name := "rateStep", fn := fun _ => fun
  | [d1, d2] => { results := [.lit (.bool false)], args := [d1, d2] }
  | _ => none }
def RateStepWrongFalsely : Prop := rateStepRow.holds Try.pinned (OpenSpec.ofChange rateStepWrong)

/-- 'escribanolaw08.RateTurned': WHATEVER THE INPUT: true; the input reads as it did. -/
def rateTurnedSpec : ChangeSpec := { name := "rateTurned", fn := fun _ => fun
  | [d1, d2] => { results := [.lit (.bool true)], args := [d1, d2] }
  | _ => none }
def rateTurnedRow : OpenClaim := { program := "ytdadffmagfknoaa", sum := "0622dd675e651b4dcef1fdaa0bd4c9b66f8ef695a91c8400a66caff56554e9f9", func := "escribano/escribanolaw08.RateTurned", spec := "rateTurned", unfollowed := true, recurses := true, plainKeys := false, apart := false }
def RateTurnedSaid : Prop := rateTurnedRow.holds Try.pinned (OpenSpec.ofChange rateTurnedSpec)

/-- ITS FALSE NEIGHBOUR: 'it returns false'. Refute it at one input. -/
def rateTurnedWrong : ChangeSpec := { name := "rateTurned", fn := fun _ => fun
  | [d1, d2] => { results := [.lit (.bool false)], args := [d1, d2] }
  | _ => none }
def RateTurnedWrongFalsely : Prop := rateTurnedRow.holds Try.pinned (OpenSpec.ofChange rateTurnedWrong)

/- THE SECOND FORM. 'bulk': how many values and letters a reading holds, each counted each time it is reached (what is shared counts as often as it is met; a slice's spare places count too). A statement '..UptoSaid' is the law's where the arguments, and the package variables that the reading takes, are together of bulk at most 1048576: NARROWER than '..Said'. Prove '..Said' where nothing that the law and all that it calls make is longer than what came in: it says more and counts as full. Else prove '..UptoSaid'. A law counts once. -/
mutual
def uptoBulk {H : Type} : DataW H → Nat
  | .lit (.string bytes) => bytes.length + 1
  | .lit _ => 1
  | .nil => 1
  | .ptr d => uptoBulk d + 1
  | .slice elems spare => uptoBulkAll elems + uptoBulkAll spare + 1
  | .agg parts => uptoBulkAll parts + 1
  | .iface _ d => uptoBulk d + 1
  | .map entries => uptoBulkEntries entries + 1
  | .held _ => 1
def uptoBulkAll {H : Type} : List (DataW H) → Nat
  | [] => 0
  | d :: r => uptoBulk d + uptoBulkAll r
def uptoBulkEntries {H : Type} : List (Lit × DataW H) → Nat
  | [] => 0
  | x :: r => uptoBulkEntry x + uptoBulkEntries r
def uptoBulkEntry {H : Type} : Lit × DataW H → Nat
  | (.string bytes, d) => bytes.length + uptoBulk d + 1
  | (_, d) => uptoBulk d + 1
 end
def uptoSmall : (H : Type) → List (DataW H) → Bool := fun _ ds => decide (uptoBulkAll ds ≤ 1048576)
def OpenSpec.upto (s : _root_.Go.ChangeSpec) : _root_.Go.OpenSpec := { _root_.Go.OpenSpec.ofChange s with cond := some uptoSmall }

/-- 'escribanolaw08.RateFirsts', WHERE WHAT IT READS IS OF BULK AT MOST 1048576: true; the input reads as it did. -/
def rateFirstsUptoRow : OpenClaim := { program := "ytdadffmagfknoaa", sum := "0622dd675e651b4dcef1fdaa0bd4c9b66f8ef695a91c8400a66caff56554e9f9", func := "escribano/escribanolaw08.RateFirsts", spec := "rateFirsts", unfollowed := true, recurses := true, plainKeys := false, apart := false, narrowed := true }
def RateFirstsUptoSaid : Prop := rateFirstsUptoRow.holds Try.pinned (OpenSpec.upto rateFirstsSpec)

/-- 'escribanolaw08.RateWorths', WHERE WHAT IT READS IS OF BULK AT MOST 1048576: true; the input reads as it did. -/
def rateWorthsUptoRow : OpenClaim := { program := "ytdadffmagfknoaa", sum := "0622dd675e651b4dcef1fdaa0bd4c9b66f8ef695a91c8400a66caff56554e9f9", func := "escribano/escribanolaw08.RateWorths", spec := "rateWorths", unfollowed := true, recurses := true, plainKeys := false, apart := false, narrowed := true }
def RateWorthsUptoSaid : Prop := rateWorthsUptoRow.holds Try.pinned (OpenSpec.upto rateWorthsSpec)

/-- 'escribanolaw08.RateAgrees', WHERE WHAT IT READS IS OF BULK AT MOST 1048576: true; the input reads as it did. -/
def rateAgreesUptoRow : OpenClaim := { program := "ytdadffmagfknoaa", sum := "0622dd675e651b4dcef1fdaa0bd4c9b66f8ef695a91c8400a66caff56554e9f9", func := "escribano/escribanolaw08.RateAgrees", spec := "rateAgrees", unfollowed := true, recurses := true, plainKeys := false, apart := false, narrowed := true }
def RateAgreesUptoSaid : Prop := rateAgreesUptoRow.holds Try.pinned (OpenSpec.upto rateAgreesSpec)

/-- 'escribanolaw08.RateSends', WHERE WHAT IT READS IS OF BULK AT MOST 1048576: true; the input reads as it did. -/
def rateSendsUptoRow : OpenClaim := { program := "ytdadffmagfknoaa", sum := "0622dd675e651b4dcef1fdaa0bd4c9b66f8ef695a91c8400a66caff56554e9f9", func := "escribano/escribanolaw08.RateSends", spec := "rateSends", unfollowed := true, recurses := true, plainKeys := false, apart := false, narrowed := true }
def RateSendsUptoSaid : Prop := rateSendsUptoRow.holds Try.pinned (OpenSpec.upto rateSendsSpec)

/-- 'escribanolaw08.RateKnown', WHERE WHAT IT READS IS OF BULK AT MOST 1048576: true; the input reads as it did. -/
def rateKnownUptoRow : OpenClaim := { program := "ytdadffmagfknoaa", sum := "0622dd675e651b4dcef1fdaa0bd4c9b66f8ef695a91c8400a66caff56554e9f9", func := "escribano/escribanolaw08.RateKnown", spec := "rateKnown", unfollowed := true, recurses := true, plainKeys := false, apart := false, narrowed := true }
def RateKnownUptoSaid : Prop := rateKnownUptoRow.holds Try.pinned (OpenSpec.upto rateKnownSpec)

/-- 'escribanolaw08.RateTrue', WHERE WHAT IT READS IS OF BULK AT MOST 1048576: true; the input reads as it did. -/
def rateTrueUptoRow : OpenClaim := { program := "ytdadffmagfknoaa", sum := "0622dd675e651b4dcef1fdaa0bd4c9b66f8ef695a91c8400a66caff56554e9f9", func := "escribano/escribanolaw08.RateTrue", spec := "rateTrue", unfollowed := true, recurses := true, plainKeys := false, apart := false, narrowed := true }
def RateTrueUptoSaid : Prop := rateTrueUptoRow.holds Try.pinned (OpenSpec.upto rateTrueSpec)

/-- 'escribanolaw08.RateFewest', WHERE WHAT IT READS IS OF BULK AT MOST 1048576: true; the input reads as it did. -/
def rateFewestUptoRow : OpenClaim := { program := "ytdadffmagfknoaa", sum := "0622dd675e651b4dcef1fdaa0bd4c9b66f8ef695a91c8400a66caff56554e9f9", func := "escribano/escribanolaw08.RateFewest", spec := "rateFewest", unfollowed := true, recurses := true, plainKeys := false, apart := false, narrowed := true }
def RateFewestUptoSaid : Prop := rateFewestUptoRow.holds Try.pinned (OpenSpec.upto rateFewestSpec)

/-- 'escribanolaw08.RateMore', WHERE WHAT IT READS IS OF BULK AT MOST 1048576: true; the input reads as it did. -/
def rateMoreUptoRow : OpenClaim := { program := "ytdadffmagfknoaa", sum := "0622dd675e651b4dcef1fdaa0bd4c9b66f8ef695a91c8400a66caff56554e9f9", func := "escribano/escribanolaw08.RateMore", spec := "rateMore", unfollowed := true, recurses := true, plainKeys := false, apart := false, narrowed := true }
def RateMoreUptoSaid : Prop := rateMoreUptoRow.holds Try.pinned (OpenSpec.upto rateMoreSpec)

/-- 'escribanolaw08.RateSent', WHERE WHAT IT READS IS OF BULK AT MOST 1048576: true; the input reads as it did. -/
def rateSentUptoRow : OpenClaim := { program := "ytdadffmagfknoaa", sum := "0622dd675e651b4dcef1fdaa0bd4c9b66f8ef695a91c8400a66caff56554e9f9", func := "escribano/escribanolaw08.RateSent", spec := "rateSent", unfollowed := true, recurses := true, plainKeys := false, apart := false, narrowed := true }
def RateSentUptoSaid : Prop := rateSentUptoRow.holds Try.pinned (OpenSpec.upto rateSentSpec)

/-- 'escribanolaw08.RateRound', WHERE WHAT IT READS IS OF BULK AT MOST 1048576: true; the input reads as it did. -/
def rateRoundUptoRow : OpenClaim := { program := "ytdadffmagfknoaa", sum := "0622dd675e651b4dcef1fdaa0bd4c9b66f8ef695a91c8400a66caff56554e9f9", func := "escribano/escribanolaw08.RateRound", spec := "rateRound", unfollowed := true, recurses := true, plainKeys := false, apart := false, narrowed := true }
def RateRoundUptoSaid : Prop := rateRoundUptoRow.holds Try.pinned (OpenSpec.upto rateRoundSpec)

/-- 'escribanolaw08.RatePaid', WHERE WHAT IT READS IS OF BULK AT MOST 1048576: true; the input reads as it did. -/
def ratePaidUptoRow : OpenClaim := { program := "ytdadffmagfknoaa", sum := "0622dd675e651b4dcef1fdaa0bd4c9b66f8ef695a91c8400a66caff56554e9f9", func := "escribano/escribanolaw08.RatePaid", spec := "ratePaid", unfollowed := true, recurses := true, plainKeys := false, apart := false, narrowed := true }
def RatePaidUptoSaid : Prop := ratePaidUptoRow.holds Try.pinned (OpenSpec.upto ratePaidSpec)

/-- 'escribanolaw08.RateStep', WHERE WHAT IT READS IS OF BULK AT MOST 1048576: true; the input reads as it did. -/
def rateStepUptoRow : OpenClaim := { program := "ytdadffmagfknoaa", sum := "0622dd675e651b4dcef1fdaa0bd4c9b66f8ef695a91c8400a66caff56554e9f9", func := "escribano/escribanolaw08.RateStep", spec := "rateStep", unfollowed := true, recurses := true, plainKeys := false, apart := false, narrowed := true }
def RateStepUptoSaid : Prop := rateStepUptoRow.holds Try.pinned (OpenSpec.upto rateStepSpec)

/-- 'escribanolaw08.RateTurned', WHERE WHAT IT READS IS OF BULK AT MOST 1048576: true; the input reads as it did. -/
def rateTurnedUptoRow : OpenClaim := { program := "ytdadffmagfknoaa", sum := "0622dd675e651b4dcef1fdaa0bd4c9b66f8ef695a91c8400a66caff56554e9f9", func := "escribano/escribanolaw08.RateTurned", spec := "rateTurned", unfollowed := true, recurses := true, plainKeys := false, apart := false, narrowed := true }
def RateTurnedUptoSaid : Prop := rateTurnedUptoRow.holds Try.pinned (OpenSpec.upto rateTurnedSpec)

end Rows
end Go.Proofs.Ytdadffmagfknoaa
