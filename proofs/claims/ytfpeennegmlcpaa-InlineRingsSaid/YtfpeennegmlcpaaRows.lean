/-
  NARROWER THAN 'FOR EVERY INPUT', by the rows' own cells (each row's printed sentence says how): InlineTrees: loops · FlatMakes: loops · FlatBacks: loops · FlatOrder: loops · FlatParts: loops · ValidLists: loops · ValidTrees: loops · ValidWrong: loops.
  DERIVED. THE GIVEN ROWS OF THIS SEAT. 12 by the template 'for every input the law returns true; each argument reads behind the call as it read before'; 0 by the template 'total and deterministic' (their statements: YtfpeennegmlcpaaTotals.lean).
  GIVEN WITH THE SEED: the statements are not yours to turn. If you find one false, say at which input.
  Laid BY PROGRAM, IN A SANDBOX (cutbox-rows.mjs): the forced cells as the released guide's own fill.sh prints them over the translation d5db9ca9536d35ab… (all of the seat's roots in one cut). By AI agents, Wed Nov 11 2026. No macro, syntax, notation, axiom, sorry.
-/
import Derived.Test.YtfpeennegmlcpaaChecked
import GoSem.Claim
import GoSem.ClaimJoined
import GoSem.ClaimMapViews
import Derived.JoinedTies
import Derived.KernelRfl
namespace Go.Proofs.Ytfpeennegmlcpaa
/- THE CELL 'sum', in the pinned program and in every row, IS THE sha256 OF THE DUMP (.gsa) THAT YtfpeennegmlcpaaProg.lean LOADS. Nothing in Lean hashes anything: it is a label: what it is worth is what the hold of that sum in a sandbox is worth. -/
noncomputable def Try.pinned : Pinned := { name := "ytfpeennegmlcpaa", sum := "d5db9ca9536d35abaf49af52c684d63864f1505db83d396fd370d159e3b3b993", checked := Try.checked }
namespace Rows
def none {H : Type} : Left H := { results := [], args := [] }

/-- 'puppeteerlaw14.InlineTrees': WHATEVER THE INPUT: true; the input reads as it did. -/
def inlineTreesSpec : ChangeSpec := { name := "inlineTrees", fn := fun _ => fun
  | [d1, d2] => { results := [.lit (.bool true)], args := [d1, d2] }
  | _ => none }
def inlineTreesRow : OpenClaim := { program := "ytfpeennegmlcpaa", sum := "d5db9ca9536d35abaf49af52c684d63864f1505db83d396fd370d159e3b3b993", func := "puppeteer/puppeteerlaw14.InlineTrees", spec := "inlineTrees", unfollowed := true, recurses := true, loops := true, plainKeys := false, apart := false }
def InlineTreesSaid : Prop := inlineTreesRow.holds Try.pinned (OpenSpec.ofChange inlineTreesSpec)

/-- ITS FALSE NEIGHBOUR: 'it returns false'. Refute it at one input. -/
def inlineTreesWrong : ChangeSpec := { name := "inlineTrees", fn := fun _ => fun
  | [d1, d2] => { results := [.lit (.bool false)], args := [d1, d2] }
  | _ => none }
def InlineTreesWrongFalsely : Prop := inlineTreesRow.holds Try.pinned (OpenSpec.ofChange inlineTreesWrong)

/-- 'puppeteerlaw14.InlinePrograms': WHATEVER THE INPUT: true; the input reads as it did. -/
def inlineProgramsSpec : ChangeSpec := { name := "inlinePrograms", fn := fun _ => fun
  | [d] => { results := [.lit (.bool true)], args := [d] }
  | _ => none }
def inlineProgramsRow : OpenClaim := { program := "ytfpeennegmlcpaa", sum := "d5db9ca9536d35abaf49af52c684d63864f1505db83d396fd370d159e3b3b993", func := "puppeteer/puppeteerlaw14.InlinePrograms", spec := "inlinePrograms", unfollowed := true, recurses := true, plainKeys := false, apart := false }
def InlineProgramsSaid : Prop := inlineProgramsRow.holds Try.pinned (OpenSpec.ofChange inlineProgramsSpec)

/-- ITS FALSE NEIGHBOUR: 'it returns false'. Refute it at one input. -/
def inlineProgramsWrong : ChangeSpec := { name := "inlinePrograms", fn := fun _ => fun
  | [d] => { results := [.lit (.bool false)], args := [d] }
  | _ => none }
def InlineProgramsWrongFalsely : Prop := inlineProgramsRow.holds Try.pinned (OpenSpec.ofChange inlineProgramsWrong)

/-- 'puppeteerlaw14.InlineCounts': WHATEVER THE INPUT: true; the input reads as it did. -/
def inlineCountsSpec : ChangeSpec := { name := "inlineCounts", fn := fun _ => fun
  | [d1, d2] => { results := [.lit (.bool true)], args := [d1, d2] }
  | _ => none }
def inlineCountsRow : OpenClaim := { program := "ytfpeennegmlcpaa", sum := "d5db9ca9536d35abaf49af52c684d63864f1505db83d396fd370d159e3b3b993", func := "puppeteer/puppeteerlaw14.InlineCounts", spec := "inlineCounts", unfollowed := true, recurses := true, plainKeys := false, apart := false }
def InlineCountsSaid : Prop := inlineCountsRow.holds Try.pinned (OpenSpec.ofChange inlineCountsSpec)

/-- ITS FALSE NEIGHBOUR: 'it returns false'. Refute it at one input. -/
def inlineCountsWrong : ChangeSpec := { name := "inlineCounts", fn := fun _ => fun
  | [d1, d2] => { results := [.lit (.bool false)], args := [d1, d2] }
  | _ => none }
def InlineCountsWrongFalsely : Prop := inlineCountsRow.holds Try.pinned (OpenSpec.ofChange inlineCountsWrong)

/-- 'puppeteerlaw14.InlineRings': WHATEVER THE INPUT: true; the input reads as it did. -/
def inlineRingsSpec : ChangeSpec := { name := "inlineRings", fn := fun _ => fun
  | [d1, d2] => { results := [.lit (.bool true)], args := [d1, d2] }
  | _ => none }
def inlineRingsRow : OpenClaim := { program := "ytfpeennegmlcpaa", sum := "d5db9ca9536d35abaf49af52c684d63864f1505db83d396fd370d159e3b3b993", func := "puppeteer/puppeteerlaw14.InlineRings", spec := "inlineRings", unfollowed := true, recurses := true, plainKeys := false, apart := false }
def InlineRingsSaid : Prop := inlineRingsRow.holds Try.pinned (OpenSpec.ofChange inlineRingsSpec)

/-- ITS FALSE NEIGHBOUR: 'it returns false'. Refute it at one input. -/
def inlineRingsWrong : ChangeSpec := { name := "inlineRings", fn := fun _ => fun
  | [d1, d2] => { results := [.lit (.bool false)], args := [d1, d2] }
  | _ => none }
def InlineRingsWrongFalsely : Prop := inlineRingsRow.holds Try.pinned (OpenSpec.ofChange inlineRingsWrong)

/-- 'puppeteerlaw15.FlatMakes': WHATEVER THE INPUT: true; the input reads as it did. -/
def flatMakesSpec : ChangeSpec := { name := "flatMakes", fn := fun _ => fun
  | [d] => { results := [.lit (.bool true)], args := [d] }
  | _ => none }
def flatMakesRow : OpenClaim := { program := "ytfpeennegmlcpaa", sum := "d5db9ca9536d35abaf49af52c684d63864f1505db83d396fd370d159e3b3b993", func := "puppeteer/puppeteerlaw15.FlatMakes", spec := "flatMakes", unfollowed := true, recurses := true, loops := true, plainKeys := false, apart := false }
def FlatMakesSaid : Prop := flatMakesRow.holds Try.pinned (OpenSpec.ofChange flatMakesSpec)

/-- ITS FALSE NEIGHBOUR: 'it returns false'. Refute it at one input. -/
def flatMakesWrong : ChangeSpec := { name := "flatMakes", fn := fun _ => fun
  | [d] => { results := [.lit (.bool false)], args := [d] }
  | _ => none }
def FlatMakesWrongFalsely : Prop := flatMakesRow.holds Try.pinned (OpenSpec.ofChange flatMakesWrong)

/-- 'puppeteerlaw15.FlatBacks': WHATEVER THE INPUT: true; the input reads as it did. -/
def flatBacksSpec : ChangeSpec := { name := "flatBacks", fn := fun _ => fun
  | [d1, d2] => { results := [.lit (.bool true)], args := [d1, d2] }
  | _ => none }
def flatBacksRow : OpenClaim := { program := "ytfpeennegmlcpaa", sum := "d5db9ca9536d35abaf49af52c684d63864f1505db83d396fd370d159e3b3b993", func := "puppeteer/puppeteerlaw15.FlatBacks", spec := "flatBacks", unfollowed := true, recurses := true, loops := true, plainKeys := false, apart := false }
def FlatBacksSaid : Prop := flatBacksRow.holds Try.pinned (OpenSpec.ofChange flatBacksSpec)

/-- ITS FALSE NEIGHBOUR: 'it returns false'. Refute it at one input. -/
def flatBacksWrong : ChangeSpec := { name := "flatBacks", fn := fun _ => fun
  | [d1, d2] => { results := [.lit (.bool false)], args := [d1, d2] }
  | _ => none }
def FlatBacksWrongFalsely : Prop := flatBacksRow.holds Try.pinned (OpenSpec.ofChange flatBacksWrong)

/-- 'puppeteerlaw15.FlatOrder': WHATEVER THE INPUT: true; the input reads as it did. -/
def flatOrderSpec : ChangeSpec := { name := "flatOrder", fn := fun _ => fun
  | [d] => { results := [.lit (.bool true)], args := [d] }
  | _ => none }
def flatOrderRow : OpenClaim := { program := "ytfpeennegmlcpaa", sum := "d5db9ca9536d35abaf49af52c684d63864f1505db83d396fd370d159e3b3b993", func := "puppeteer/puppeteerlaw15.FlatOrder", spec := "flatOrder", unfollowed := true, recurses := true, loops := true, plainKeys := false, apart := false }
def FlatOrderSaid : Prop := flatOrderRow.holds Try.pinned (OpenSpec.ofChange flatOrderSpec)

/-- ITS FALSE NEIGHBOUR: 'it returns false'. Refute it at one input. -/
def flatOrderWrong : ChangeSpec := { name := "flatOrder", fn := fun _ => fun
  | [d] => { results := [.lit (.bool false)], args := [d] }
  | _ => none }
def FlatOrderWrongFalsely : Prop := flatOrderRow.holds Try.pinned (OpenSpec.ofChange flatOrderWrong)

/-- 'puppeteerlaw15.FlatParts': WHATEVER THE INPUT: true; the input reads as it did. -/
def flatPartsSpec : ChangeSpec := { name := "flatParts", fn := fun _ => fun
  | [d1, d2] => { results := [.lit (.bool true)], args := [d1, d2] }
  | _ => none }
def flatPartsRow : OpenClaim := { program := "ytfpeennegmlcpaa", sum := "d5db9ca9536d35abaf49af52c684d63864f1505db83d396fd370d159e3b3b993", func := "puppeteer/puppeteerlaw15.FlatParts", spec := "flatParts", unfollowed := true, recurses := true, loops := true, plainKeys := false, apart := false }
def FlatPartsSaid : Prop := flatPartsRow.holds Try.pinned (OpenSpec.ofChange flatPartsSpec)

/-- ITS FALSE NEIGHBOUR: 'it returns false'. Refute it at one input. -/
def flatPartsWrong : ChangeSpec := { name := "flatParts", fn := fun _ => fun
  | [d1, d2] => { results := [.lit (.bool false)], args := [d1, d2] }
  | _ => none }
def FlatPartsWrongFalsely : Prop := flatPartsRow.holds Try.pinned (OpenSpec.ofChange flatPartsWrong)

/-- 'puppeteerlaw16.ValidLists': WHATEVER THE INPUT: true; the input reads as it did. -/
def validListsSpec : ChangeSpec := { name := "validLists", fn := fun _ => fun
  | [d] => { results := [.lit (.bool true)], args := [d] }
  | _ => none }
def validListsRow : OpenClaim := { program := "ytfpeennegmlcpaa", sum := "d5db9ca9536d35abaf49af52c684d63864f1505db83d396fd370d159e3b3b993", func := "puppeteer/puppeteerlaw16.ValidLists", spec := "validLists", unfollowed := true, recurses := true, loops := true, plainKeys := false, apart := false }
def ValidListsSaid : Prop := validListsRow.holds Try.pinned (OpenSpec.ofChange validListsSpec)

/-- ITS FALSE NEIGHBOUR: 'it returns false'. Refute it at one input. -/
def validListsWrong : ChangeSpec := { name := "validLists", fn := fun _ => fun
  | [d] => { results := [.lit (.bool false)], args := [d] }
  | _ => none }
def ValidListsWrongFalsely : Prop := validListsRow.holds Try.pinned (OpenSpec.ofChange validListsWrong)

/-- 'puppeteerlaw16.ValidTrees': WHATEVER THE INPUT: true; the input reads as it did. -/
def validTreesSpec : ChangeSpec := { name := "validTrees", fn := fun _ => fun
  | [d] => { results := [.lit (.bool true)], args := [d] }
  | _ => none }
def validTreesRow : OpenClaim := { program := "ytfpeennegmlcpaa", sum := "d5db9ca9536d35abaf49af52c684d63864f1505db83d396fd370d159e3b3b993", func := "puppeteer/puppeteerlaw16.ValidTrees", spec := "validTrees", unfollowed := true, recurses := true, loops := true, plainKeys := false, apart := false }
def ValidTreesSaid : Prop := validTreesRow.holds Try.pinned (OpenSpec.ofChange validTreesSpec)

/-- ITS FALSE NEIGHBOUR: 'it returns false'. Refute it at one input. -/
def validTreesWrong : ChangeSpec := { name := "validTrees", fn := fun _ => fun
  | [d] => { results := [.lit (.bool false)], args := [d] }
  | _ => none }
def ValidTreesWrongFalsely : Prop := validTreesRow.holds Try.pinned (OpenSpec.ofChange validTreesWrong)

/-- 'puppeteerlaw16.ValidPrograms': WHATEVER THE INPUT: true; the input reads as it did. -/
def validProgramsSpec : ChangeSpec := { name := "validPrograms", fn := fun _ => fun
  | [d] => { results := [.lit (.bool true)], args := [d] }
  | _ => none }
def validProgramsRow : OpenClaim := { program := "ytfpeennegmlcpaa", sum := "d5db9ca9536d35abaf49af52c684d63864f1505db83d396fd370d159e3b3b993", func := "puppeteer/puppeteerlaw16.ValidPrograms", spec := "validPrograms", unfollowed := true, recurses := true, plainKeys := false, apart := false }
def ValidProgramsSaid : Prop := validProgramsRow.holds Try.pinned (OpenSpec.ofChange validProgramsSpec)

/-- ITS FALSE NEIGHBOUR: 'it returns false'. Refute it at one input. -/
def validProgramsWrong : ChangeSpec := { name := "validPrograms", fn := fun _ => fun
  | [d] => { results := [.lit (.bool false)], args := [d] }
  | _ => none }
def ValidProgramsWrongFalsely : Prop := validProgramsRow.holds Try.pinned (OpenSpec.ofChange validProgramsWrong)

/-- 'puppeteerlaw16.ValidWrong': WHATEVER THE INPUT: true; the input reads as it did. -/
def validWrongSpec : ChangeSpec := { name := "validWrong", fn := fun _ => fun
  | [d1, d2, d3, d4] => { results := [.lit (.bool true)], args := [d1, d2, d3, d4] }
  | _ => none }
def validWrongRow : OpenClaim := { program := "ytfpeennegmlcpaa", sum := "d5db9ca9536d35abaf49af52c684d63864f1505db83d396fd370d159e3b3b993", func := "puppeteer/puppeteerlaw16.ValidWrong", spec := "validWrong", unfollowed := true, recurses := true, loops := true, plainKeys := false, apart := false }
def ValidWrongSaid : Prop := validWrongRow.holds Try.pinned (OpenSpec.ofChange validWrongSpec)

/-- ITS FALSE NEIGHBOUR: 'it returns false'. Refute it at one input. -/
def validWrongWrong : ChangeSpec := { name := "validWrong", fn := fun _ => fun
  | [d1, d2, d3, d4] => { results := [.lit (.bool false)], args := [d1, d2, d3, d4] }
  | _ => none }
def ValidWrongWrongFalsely : Prop := validWrongRow.holds Try.pinned (OpenSpec.ofChange validWrongWrong)

/- THE SECOND FORM. 'bulk': how many values and letters a reading holds, each counted each time it is reached (what is shared counts as often as it is met; a slice's spare places count too). A statement '..UptoSaid' is the law's where the arguments, and the package variables that the reading takes, are together of bulk at most 1048576: NARROWER than '..Said'. Prove '..Said' where nothing that the law and all that it calls make is longer than what came in: it says more and counts as full. Else prove '..UptoSaid'. A law counts once. -/
mutual
def uptoBulk {H : Type} : DataW H → Nat
  | .lit (.string bytes) => bytes.length + 1
  | .lit _ => 1
  | .nil => 1
  | .ptr d => uptoBulk d + 1
  | .slice elems spare => uptoBulkAll elems + uptoBulkAll spare + 1
  | .agg parts => uptoBulkAll parts + 1
  | .iface _ d => uptoBulk d + 1
  | .map entries => uptoBulkEntries entries + 1
  | .held _ => 1
def uptoBulkAll {H : Type} : List (DataW H) → Nat
  | [] => 0
  | d :: r => uptoBulk d + uptoBulkAll r
def uptoBulkEntries {H : Type} : List (Lit × DataW H) → Nat
  | [] => 0
  | x :: r => uptoBulkEntry x + uptoBulkEntries r
def uptoBulkEntry {H : Type} : Lit × DataW H → Nat
  | (.string bytes, d) => bytes.length + uptoBulk d + 1
  | (_, d) => uptoBulk d + 1
 end
def uptoSmall : (H : Type) → List (DataW H) → Bool := fun _ ds => decide (uptoBulkAll ds ≤ 1048576)
def OpenSpec.upto (s : _root_.Go.ChangeSpec) : _root_.Go.OpenSpec := { _root_.Go.OpenSpec.ofChange s with cond := some uptoSmall }

/-- 'puppeteerlaw14.InlineTrees', WHERE WHAT IT READS IS OF BULK AT MOST 1048576: true; the input reads as it did. -/
def inlineTreesUptoRow : OpenClaim := { program := "ytfpeennegmlcpaa", sum := "d5db9ca9536d35abaf49af52c684d63864f1505db83d396fd370d159e3b3b993", func := "puppeteer/puppeteerlaw14.InlineTrees", spec := "inlineTrees", unfollowed := true, recurses := true, loops := true, plainKeys := false, apart := false, narrowed := true }
def InlineTreesUptoSaid : Prop := inlineTreesUptoRow.holds Try.pinned (OpenSpec.upto inlineTreesSpec)

/-- 'puppeteerlaw14.InlinePrograms', WHERE WHAT IT READS IS OF BULK AT MOST 1048576: true; the input reads as it did. -/
def inlineProgramsUptoRow : OpenClaim := { program := "ytfpeennegmlcpaa", sum := "d5db9ca9536d35abaf49af52c684d63864f1505db83d396fd370d159e3b3b993", func := "puppeteer/puppeteerlaw14.InlinePrograms", spec := "inlinePrograms", unfollowed := true, recurses := true, plainKeys := false, apart := false, narrowed := true }
def InlineProgramsUptoSaid : Prop := inlineProgramsUptoRow.holds Try.pinned (OpenSpec.upto inlineProgramsSpec)

/-- 'puppeteerlaw14.InlineCounts', WHERE WHAT IT READS IS OF BULK AT MOST 1048576: true; the input reads as it did. -/
def inlineCountsUptoRow : OpenClaim := { program := "ytfpeennegmlcpaa", sum := "d5db9ca9536d35abaf49af52c684d63864f1505db83d396fd370d159e3b3b993", func := "puppeteer/puppeteerlaw14.InlineCounts", spec := "inlineCounts", unfollowed := true, recurses := true, plainKeys := false, apart := false, narrowed := true }
def InlineCountsUptoSaid : Prop := inlineCountsUptoRow.holds Try.pinned (OpenSpec.upto inlineCountsSpec)

/-- 'puppeteerlaw14.InlineRings', WHERE WHAT IT READS IS OF BULK AT MOST 1048576: true; the input reads as it did. -/
def inlineRingsUptoRow : OpenClaim := { program := "ytfpeennegmlcpaa", sum := "d5db9ca9536d35abaf49af52c684d63864f1505db83d396fd370d159e3b3b993", func := "puppeteer/puppeteerlaw14.InlineRings", spec := "inlineRings", unfollowed := true, recurses := true, plainKeys := false, apart := false, narrowed := true }
def InlineRingsUptoSaid : Prop := inlineRingsUptoRow.holds Try.pinned (OpenSpec.upto inlineRingsSpec)

/-- 'puppeteerlaw15.FlatMakes', WHERE WHAT IT READS IS OF BULK AT MOST 1048576: true; the input reads as it did. -/
def flatMakesUptoRow : OpenClaim := { program := "ytfpeennegmlcpaa", sum := "d5db9ca9536d35abaf49af52c684d63864f1505db83d396fd370d159e3b3b993", func := "puppeteer/puppeteerlaw15.FlatMakes", spec := "flatMakes", unfollowed := true, recurses := true, loops := true, plainKeys := false, apart := false, narrowed := true }
def FlatMakesUptoSaid : Prop := flatMakesUptoRow.holds Try.pinned (OpenSpec.upto flatMakesSpec)

/-- 'puppeteerlaw15.FlatBacks', WHERE WHAT IT READS IS OF BULK AT MOST 1048576: true; the input reads as it did. -/
def flatBacksUptoRow : OpenClaim := { program := "ytfpeennegmlcpaa", sum := "d5db9ca9536d35abaf49af52c684d63864f1505db83d396fd370d159e3b3b993", func := "puppeteer/puppeteerlaw15.FlatBacks", spec := "flatBacks", unfollowed := true, recurses := true, loops := true, plainKeys := false, apart := false, narrowed := true }
def FlatBacksUptoSaid : Prop := flatBacksUptoRow.holds Try.pinned (OpenSpec.upto flatBacksSpec)

/-- 'puppeteerlaw15.FlatOrder', WHERE WHAT IT READS IS OF BULK AT MOST 1048576: true; the input reads as it did. -/
def flatOrderUptoRow : OpenClaim := { program := "ytfpeennegmlcpaa", sum := "d5db9ca9536d35abaf49af52c684d63864f1505db83d396fd370d159e3b3b993", func := "puppeteer/puppeteerlaw15.FlatOrder", spec := "flatOrder", unfollowed := true, recurses := true, loops := true, plainKeys := false, apart := false, narrowed := true }
def FlatOrderUptoSaid : Prop := flatOrderUptoRow.holds Try.pinned (OpenSpec.upto flatOrderSpec)

/-- 'puppeteerlaw15.FlatParts', WHERE WHAT IT READS IS OF BULK AT MOST 1048576: true; the input reads as it did. -/
def flatPartsUptoRow : OpenClaim := { program := "ytfpeennegmlcpaa", sum := "d5db9ca9536d35abaf49af52c684d63864f1505db83d396fd370d159e3b3b993", func := "puppeteer/puppeteerlaw15.FlatParts", spec := "flatParts", unfollowed := true, recurses := true, loops := true, plainKeys := false, apart := false, narrowed := true }
def FlatPartsUptoSaid : Prop := flatPartsUptoRow.holds Try.pinned (OpenSpec.upto flatPartsSpec)

/-- 'puppeteerlaw16.ValidLists', WHERE WHAT IT READS IS OF BULK AT MOST 1048576: true; the input reads as it did. -/
def validListsUptoRow : OpenClaim := { program := "ytfpeennegmlcpaa", sum := "d5db9ca9536d35abaf49af52c684d63864f1505db83d396fd370d159e3b3b993", func := "puppeteer/puppeteerlaw16.ValidLists", spec := "validLists", unfollowed := true, recurses := true, loops := true, plainKeys := false, apart := false, narrowed := true }
def ValidListsUptoSaid : Prop := validListsUptoRow.holds Try.pinned (OpenSpec.upto validListsSpec)

/-- 'puppeteerlaw16.ValidTrees', WHERE WHAT IT READS IS OF BULK AT MOST 1048576: true; the input reads as it did. -/
def validTreesUptoRow : OpenClaim := { program := "ytfpeennegmlcpaa", sum := "d5db9ca9536d35abaf49af52c684d63864f1505db83d396fd370d159e3b3b993", func := "puppeteer/puppeteerlaw16.ValidTrees", spec := "validTrees", unfollowed := true, recurses := true, loops := true, plainKeys := false, apart := false, narrowed := true }
def ValidTreesUptoSaid : Prop := validTreesUptoRow.holds Try.pinned (OpenSpec.upto validTreesSpec)

/-- 'puppeteerlaw16.ValidPrograms', WHERE WHAT IT READS IS OF BULK AT MOST 1048576: true; the input reads as it did. -/
def validProgramsUptoRow : OpenClaim := { program := "ytfpeennegmlcpaa", sum := "d5db9ca9536d35abaf49af52c684d63864f1505db83d396fd370d159e3b3b993", func := "puppeteer/puppeteerlaw16.ValidPrograms", spec := "validPrograms", unfollowed := true, recurses := true, plainKeys := false, apart := false, narrowed := true }
def ValidProgramsUptoSaid : Prop := validProgramsUptoRow.holds Try.pinned (OpenSpec.upto validProgramsSpec)

/-- 'puppeteerlaw16.ValidWrong', WHERE WHAT IT READS IS OF BULK AT MOST 1048576: true; the input reads as it did. -/
def validWrongUptoRow : OpenClaim := { program := "ytfpeennegmlcpaa", sum := "d5db9ca9536d35abaf49af52c684d63864f1505db83d396fd370d159e3b3b993", func := "puppeteer/puppeteerlaw16.ValidWrong", spec := "validWrong", unfollowed := true, recurses := true, loops := true, plainKeys := false, apart := false, narrowed := true }
def ValidWrongUptoSaid : Prop := validWrongUptoRow.holds Try.pinned (OpenSpec.upto validWrongSpec)

end Rows
end Go.Proofs.Ytfpeennegmlcpaa
