/-
  NARROWER THAN 'FOR EVERY INPUT', by the rows' own cells (each row's printed sentence says how): CheckKinds: loops · InlineTrees: loops.
  DERIVED. THE GIVEN ROWS OF THIS SEAT. 5 by the template 'for every input the law returns true; each argument reads behind the call as it read before'; 0 by the template 'total and deterministic' (their statements: YtgchjiojmfhokaaTotals.lean).
  GIVEN WITH THE SEED: the statements are not yours to turn. If you find one false, say at which input.
  Laid BY PROGRAM, IN A SANDBOX (cutbox-rows.mjs): the forced cells as the released guide's own fill.sh prints them over the translation e5f41144f1b4be0c… (all of the seat's roots in one cut). By AI agents, Wed Nov 11 2026. No macro, syntax, notation, axiom, sorry.
-/
import Derived.Test.YtgchjiojmfhokaaChecked
import GoSem.Claim
import GoSem.ClaimJoined
import GoSem.ClaimMapViews
import Derived.JoinedTies
import Derived.KernelRfl
namespace Go.Proofs.Ytgchjiojmfhokaa
/- THE CELL 'sum', in the pinned program and in every row, IS THE sha256 OF THE DUMP (.gsa) THAT YtgchjiojmfhokaaProg.lean LOADS. Nothing in Lean hashes anything: it is a label: what it is worth is what the hold of that sum in a sandbox is worth. -/
noncomputable def Try.pinned : Pinned := { name := "ytgchjiojmfhokaa", sum := "e5f41144f1b4be0c8afb70d9116c6f381c0032aab45f65968d1f7d0c964ba8b7", checked := Try.checked }
namespace Rows
def none {H : Type} : Left H := { results := [], args := [] }

/-- 'puppeteerlaw13.CheckKinds': WHATEVER THE INPUT: true; the input reads as it did. -/
def checkKindsSpec : ChangeSpec := { name := "checkKinds", fn := fun _ => fun
  | [d1, d2] => { results := [.lit (.bool true)], args := [d1, d2] }
  | _ => none }
def checkKindsRow : OpenClaim := { program := "ytgchjiojmfhokaa", sum := "e5f41144f1b4be0c8afb70d9116c6f381c0032aab45f65968d1f7d0c964ba8b7", func := "puppeteer/puppeteerlaw13.CheckKinds", spec := "checkKinds", inPlace := ["math.Float64bits"], unfollowed := true, recurses := true, loops := true, apart := false }
def CheckKindsSaid : Prop := checkKindsRow.holds Try.pinned (OpenSpec.ofChange checkKindsSpec)

/-- ITS FALSE NEIGHBOUR: 'it returns false'. Refute it at one input. -/
def checkKindsWrong : ChangeSpec := { name := "checkKinds", fn := fun _ => fun
  | [d1, d2] => { results := [.lit (.bool false)], args := [d1, d2] }
  | _ => none }
def CheckKindsWrongFalsely : Prop := checkKindsRow.holds Try.pinned (OpenSpec.ofChange checkKindsWrong)

/-- 'puppeteerlaw14.InlineTrees': WHATEVER THE INPUT: true; the input reads as it did. -/
def inlineTreesSpec : ChangeSpec := { name := "inlineTrees", fn := fun _ => fun
  | [d1, d2] => { results := [.lit (.bool true)], args := [d1, d2] }
  | _ => none }
def inlineTreesRow : OpenClaim := { program := "ytgchjiojmfhokaa", sum := "e5f41144f1b4be0c8afb70d9116c6f381c0032aab45f65968d1f7d0c964ba8b7", func := "puppeteer/puppeteerlaw14.InlineTrees", spec := "inlineTrees", unfollowed := true, recurses := true, loops := true, apart := false }
def InlineTreesSaid : Prop := inlineTreesRow.holds Try.pinned (OpenSpec.ofChange inlineTreesSpec)

/-- ITS FALSE NEIGHBOUR: 'it returns false'. Refute it at one input. -/
def inlineTreesWrong : ChangeSpec := { name := "inlineTrees", fn := fun _ => fun
  | [d1, d2] => { results := [.lit (.bool false)], args := [d1, d2] }
  | _ => none }
def InlineTreesWrongFalsely : Prop := inlineTreesRow.holds Try.pinned (OpenSpec.ofChange inlineTreesWrong)

/-- 'puppeteerlaw14.InlinePrograms': WHATEVER THE INPUT: true; the input reads as it did. -/
def inlineProgramsSpec : ChangeSpec := { name := "inlinePrograms", fn := fun _ => fun
  | [d] => { results := [.lit (.bool true)], args := [d] }
  | _ => none }
def inlineProgramsRow : OpenClaim := { program := "ytgchjiojmfhokaa", sum := "e5f41144f1b4be0c8afb70d9116c6f381c0032aab45f65968d1f7d0c964ba8b7", func := "puppeteer/puppeteerlaw14.InlinePrograms", spec := "inlinePrograms", unfollowed := true, recurses := true, apart := false }
def InlineProgramsSaid : Prop := inlineProgramsRow.holds Try.pinned (OpenSpec.ofChange inlineProgramsSpec)

/-- ITS FALSE NEIGHBOUR: 'it returns false'. Refute it at one input. -/
def inlineProgramsWrong : ChangeSpec := { name := "inlinePrograms", fn := fun _ => fun
  | [d] => { results := [.lit (.bool false)], args := [d] }
  | _ => none }
def InlineProgramsWrongFalsely : Prop := inlineProgramsRow.holds Try.pinned (OpenSpec.ofChange inlineProgramsWrong)

/-- 'puppeteerlaw14.InlineCounts': WHATEVER THE INPUT: true; the input reads as it did. -/
def inlineCountsSpec : ChangeSpec := { name := "inlineCounts", fn := fun _ => fun
  | [d1, d2] => { results := [.lit (.bool true)], args := [d1, d2] }
  | _ => none }
def inlineCountsRow : OpenClaim := { program := "ytgchjiojmfhokaa", sum := "e5f41144f1b4be0c8afb70d9116c6f381c0032aab45f65968d1f7d0c964ba8b7", func := "puppeteer/puppeteerlaw14.InlineCounts", spec := "inlineCounts", unfollowed := true, recurses := true, apart := false }
def InlineCountsSaid : Prop := inlineCountsRow.holds Try.pinned (OpenSpec.ofChange inlineCountsSpec)

/-- ITS FALSE NEIGHBOUR: 'it returns false'. Refute it at one input. -/
def inlineCountsWrong : ChangeSpec := { name := "inlineCounts", fn := fun _ => fun
  | [d1, d2] => { results := [.lit (.bool false)], args := [d1, d2] }
  | _ => none }
def InlineCountsWrongFalsely : Prop := inlineCountsRow.holds Try.pinned (OpenSpec.ofChange inlineCountsWrong)

/-- 'puppeteerlaw14.InlineRings': WHATEVER THE INPUT: true; the input reads as it did. -/
def inlineRingsSpec : ChangeSpec := { name := "inlineRings", fn := fun _ => fun
  | [d1, d2] => { results := [.lit (.bool true)], args := [d1, d2] }
  | _ => none }
def inlineRingsRow : OpenClaim := { program := "ytgchjiojmfhokaa", sum := "e5f41144f1b4be0c8afb70d9116c6f381c0032aab45f65968d1f7d0c964ba8b7", func := "puppeteer/puppeteerlaw14.InlineRings", spec := "inlineRings", unfollowed := true, recurses := true, apart := false }
def InlineRingsSaid : Prop := inlineRingsRow.holds Try.pinned (OpenSpec.ofChange inlineRingsSpec)

/-- ITS FALSE NEIGHBOUR: 'it returns false'. Refute it at one input. -/
def inlineRingsWrong : ChangeSpec := { name := "inlineRings", fn := fun _ => fun
  | [d1, d2] => { results := [.lit (.bool false)], args := [d1, d2] }
  | _ => none }
def InlineRingsWrongFalsely : Prop := inlineRingsRow.holds Try.pinned (OpenSpec.ofChange inlineRingsWrong)

/- THE SECOND FORM. 'bulk': how many values and letters a reading holds, each counted each time it is reached (what is shared counts as often as it is met; a slice's spare places count too). A statement '..UptoSaid' is the law's where the arguments, and the package variables that the reading takes, are together of bulk at most 1048576: NARROWER than '..Said'. Prove '..Said' where nothing that the law and all that it calls make is longer than what came in: it says more and counts as full. Else prove '..UptoSaid'. A law counts once. -/
mutual
def uptoBulk {H : Type} : DataW H → Nat
  | .lit (.string bytes) => bytes.length + 1
  | .lit _ => 1
  | .nil => 1
  | .ptr d => uptoBulk d + 1
  | .slice elems spare => uptoBulkAll elems + uptoBulkAll spare + 1
  | .agg parts => uptoBulkAll parts + 1
  | .iface _ d => uptoBulk d + 1
  | .map entries => uptoBulkEntries entries + 1
  | .held _ => 1
def uptoBulkAll {H : Type} : List (DataW H) → Nat
  | [] => 0
  | d :: r => uptoBulk d + uptoBulkAll r
def uptoBulkEntries {H : Type} : List (Lit × DataW H) → Nat
  | [] => 0
  | x :: r => uptoBulkEntry x + uptoBulkEntries r
def uptoBulkEntry {H : Type} : Lit × DataW H → Nat
  | (.string bytes, d) => bytes.length + uptoBulk d + 1
  | (_, d) => uptoBulk d + 1
 end
def uptoSmall : (H : Type) → List (DataW H) → Bool := fun _ ds => decide (uptoBulkAll ds ≤ 1048576)
def OpenSpec.upto (s : _root_.Go.ChangeSpec) : _root_.Go.OpenSpec := { _root_.Go.OpenSpec.ofChange s with cond := some uptoSmall }

/-- 'puppeteerlaw13.CheckKinds', WHERE WHAT IT READS IS OF BULK AT MOST 1048576: true; the input reads as it did. -/
def checkKindsUptoRow : OpenClaim := { program := "ytgchjiojmfhokaa", sum := "e5f41144f1b4be0c8afb70d9116c6f381c0032aab45f65968d1f7d0c964ba8b7", func := "puppeteer/puppeteerlaw13.CheckKinds", spec := "checkKinds", inPlace := ["math.Float64bits"], unfollowed := true, recurses := true, loops := true, apart := false, narrowed := true }
def CheckKindsUptoSaid : Prop := checkKindsUptoRow.holds Try.pinned (OpenSpec.upto checkKindsSpec)

/-- 'puppeteerlaw14.InlineTrees', WHERE WHAT IT READS IS OF BULK AT MOST 1048576: true; the input reads as it did. -/
def inlineTreesUptoRow : OpenClaim := { program := "ytgchjiojmfhokaa", sum := "e5f41144f1b4be0c8afb70d9116c6f381c0032aab45f65968d1f7d0c964ba8b7", func := "puppeteer/puppeteerlaw14.InlineTrees", spec := "inlineTrees", unfollowed := true, recurses := true, loops := true, apart := false, narrowed := true }
def InlineTreesUptoSaid : Prop := inlineTreesUptoRow.holds Try.pinned (OpenSpec.upto inlineTreesSpec)

/-- 'puppeteerlaw14.InlinePrograms', WHERE WHAT IT READS IS OF BULK AT MOST 1048576: true; the input reads as it did. -/
def inlineProgramsUptoRow : OpenClaim := { program := "ytgchjiojmfhokaa", sum := "e5f41144f1b4be0c8afb70d9116c6f381c0032aab45f65968d1f7d0c964ba8b7", func := "puppeteer/puppeteerlaw14.InlinePrograms", spec := "inlinePrograms", unfollowed := true, recurses := true, apart := false, narrowed := true }
def InlineProgramsUptoSaid : Prop := inlineProgramsUptoRow.holds Try.pinned (OpenSpec.upto inlineProgramsSpec)

/-- 'puppeteerlaw14.InlineCounts', WHERE WHAT IT READS IS OF BULK AT MOST 1048576: true; the input reads as it did. -/
def inlineCountsUptoRow : OpenClaim := { program := "ytgchjiojmfhokaa", sum := "e5f41144f1b4be0c8afb70d9116c6f381c0032aab45f65968d1f7d0c964ba8b7", func := "puppeteer/puppeteerlaw14.InlineCounts", spec := "inlineCounts", unfollowed := true, recurses := true, apart := false, narrowed := true }
def InlineCountsUptoSaid : Prop := inlineCountsUptoRow.holds Try.pinned (OpenSpec.upto inlineCountsSpec)

/-- 'puppeteerlaw14.InlineRings', WHERE WHAT IT READS IS OF BULK AT MOST 1048576: true; the input reads as it did. -/
def inlineRingsUptoRow : OpenClaim := { program := "ytgchjiojmfhokaa", sum := "e5f41144f1b4be0c8afb70d9116c6f381c0032aab45f65968d1f7d0c964ba8b7", func := "puppeteer/puppeteerlaw14.InlineRings", spec := "inlineRings", unfollowed := true, recurses := true, apart := false, narrowed := true }
def InlineRingsUptoSaid : Prop := inlineRingsUptoRow.holds Try.pinned (OpenSpec.upto inlineRingsSpec)

end Rows
end Go.Proofs.Ytgchjiojmfhokaa
