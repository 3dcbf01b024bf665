/-
  No cell of these rows narrows 'for every input' (looked for: loops, veiled, ifaces, maps, wideKeys, modest, calm, conditions, laid).
  DERIVED. THE GIVEN ROWS OF THIS SEAT. 7 by the template 'for every input the law returns true; each argument reads behind the call as it read before'; 0 by the template 'total and deterministic' (their statements: YtfbimjfgklldaaaTotals.lean).
  GIVEN WITH THE SEED: the statements are not yours to turn. If you find one false, say at which input.
  Laid BY PROGRAM, IN A SANDBOX (cutbox-rows.mjs): the forced cells as the released guide's own fill.sh prints them over the translation d9e78bbab048610b… (all of the seat's roots in one cut). By AI agents, Wed Nov 11 2026. No macro, syntax, notation, axiom, sorry.
-/
import Derived.Test.YtfbimjfgklldaaaChecked
import GoSem.Claim
import GoSem.ClaimJoined
import GoSem.ClaimMapViews
import Derived.JoinedTies
import Derived.KernelRfl
namespace Go.Proofs.Ytfbimjfgklldaaa
/- THE CELL 'sum', in the pinned program and in every row, IS THE sha256 OF THE DUMP (.gsa) THAT YtfbimjfgklldaaaProg.lean LOADS. Nothing in Lean hashes anything: it is a label: what it is worth is what the hold of that sum in a sandbox is worth. -/
noncomputable def Try.pinned : Pinned := { name := "ytfbimjfgklldaaa", sum := "d9e78bbab048610b25fb76b2f67e99a4fc6637f83325b40da6753d8374596084", checked := Try.checked }
namespace Rows
def none {H : Type} : Left H := { results := [], args := [] }

/-- 'parapetlaw1.AsciiCases': WHATEVER THE INPUT: true; the input reads as it did. -/
def asciiCasesSpec : ChangeSpec := { name := "asciiCases", fn := fun _ => fun
  | [d1, d2] => { results := [.lit (.bool true)], args := [d1, d2] }
  | _ => none }
def asciiCasesRow : OpenClaim := { program := "ytfbimjfgklldaaa", sum := "d9e78bbab048610b25fb76b2f67e99a4fc6637f83325b40da6753d8374596084", func := "parapet/parapetlaw1.AsciiCases", spec := "asciiCases", inPlace := ["internal/bytealg.IndexByteString"], apart := false }
def AsciiCasesSaid : Prop := asciiCasesRow.holds Try.pinned (OpenSpec.ofChange asciiCasesSpec)

/-- ITS FALSE NEIGHBOUR: 'it returns false'. Refute it at one input. -/
def asciiCasesWrong : ChangeSpec := { name := "asciiCases", fn := fun _ => fun
  | [d1, d2] => { results := [.lit (.bool false)], args := [d1, d2] }
  | _ => none }
def AsciiCasesWrongFalsely : Prop := asciiCasesRow.holds Try.pinned (OpenSpec.ofChange asciiCasesWrong)

/-- 'parapetlaw1.AsciiAny': WHATEVER THE INPUT: true; the input reads as it did. -/
def asciiAnySpec : ChangeSpec := { name := "asciiAny", fn := fun _ => fun
  | [d1, d2] => { results := [.lit (.bool true)], args := [d1, d2] }
  | _ => none }
def asciiAnyRow : OpenClaim := { program := "ytfbimjfgklldaaa", sum := "d9e78bbab048610b25fb76b2f67e99a4fc6637f83325b40da6753d8374596084", func := "parapet/parapetlaw1.AsciiAny", spec := "asciiAny", inPlace := ["internal/bytealg.IndexByteString"], apart := false }
def AsciiAnySaid : Prop := asciiAnyRow.holds Try.pinned (OpenSpec.ofChange asciiAnySpec)

/-- ITS FALSE NEIGHBOUR: 'it returns false'. Refute it at one input. -/
def asciiAnyWrong : ChangeSpec := { name := "asciiAny", fn := fun _ => fun
  | [d1, d2] => { results := [.lit (.bool false)], args := [d1, d2] }
  | _ => none }
def AsciiAnyWrongFalsely : Prop := asciiAnyRow.holds Try.pinned (OpenSpec.ofChange asciiAnyWrong)

/-- 'parapetlaw1.AsciiTokens': WHATEVER THE INPUT: true; the input reads as it did. -/
def asciiTokensSpec : ChangeSpec := { name := "asciiTokens", fn := fun _ => fun
  | [d] => { results := [.lit (.bool true)], args := [d] }
  | _ => none }
def asciiTokensRow : OpenClaim := { program := "ytfbimjfgklldaaa", sum := "d9e78bbab048610b25fb76b2f67e99a4fc6637f83325b40da6753d8374596084", func := "parapet/parapetlaw1.AsciiTokens", spec := "asciiTokens", inPlace := ["internal/bytealg.IndexByteString"], apart := false }
def AsciiTokensSaid : Prop := asciiTokensRow.holds Try.pinned (OpenSpec.ofChange asciiTokensSpec)

/-- ITS FALSE NEIGHBOUR: 'it returns false'. Refute it at one input. -/
def asciiTokensWrong : ChangeSpec := { name := "asciiTokens", fn := fun _ => fun
  | [d] => { results := [.lit (.bool false)], args := [d] }
  | _ => none }
def AsciiTokensWrongFalsely : Prop := asciiTokensRow.holds Try.pinned (OpenSpec.ofChange asciiTokensWrong)

/-- 'parapetlaw1.AsciiCuts': WHATEVER THE INPUT: true; the input reads as it did. -/
def asciiCutsSpec : ChangeSpec := { name := "asciiCuts", fn := fun _ => fun
  | [d1, d2] => { results := [.lit (.bool true)], args := [d1, d2] }
  | _ => none }
def asciiCutsRow : OpenClaim := { program := "ytfbimjfgklldaaa", sum := "d9e78bbab048610b25fb76b2f67e99a4fc6637f83325b40da6753d8374596084", func := "parapet/parapetlaw1.AsciiCuts", spec := "asciiCuts", inPlace := ["internal/bytealg.IndexByteString"], apart := false }
def AsciiCutsSaid : Prop := asciiCutsRow.holds Try.pinned (OpenSpec.ofChange asciiCutsSpec)

/-- ITS FALSE NEIGHBOUR: 'it returns false'. Refute it at one input. -/
def asciiCutsWrong : ChangeSpec := { name := "asciiCuts", fn := fun _ => fun
  | [d1, d2] => { results := [.lit (.bool false)], args := [d1, d2] }
  | _ => none }
def AsciiCutsWrongFalsely : Prop := asciiCutsRow.holds Try.pinned (OpenSpec.ofChange asciiCutsWrong)

/-- 'parapetlaw1.AsciiBytes': WHATEVER THE INPUT: true; the input reads as it did. -/
def asciiBytesSpec : ChangeSpec := { name := "asciiBytes", fn := fun _ => fun
  | [d] => { results := [.lit (.bool true)], args := [d] }
  | _ => none }
def asciiBytesRow : OpenClaim := { program := "ytfbimjfgklldaaa", sum := "d9e78bbab048610b25fb76b2f67e99a4fc6637f83325b40da6753d8374596084", func := "parapet/parapetlaw1.AsciiBytes", spec := "asciiBytes", inPlace := ["internal/bytealg.IndexByteString"], apart := false }
def AsciiBytesSaid : Prop := asciiBytesRow.holds Try.pinned (OpenSpec.ofChange asciiBytesSpec)

/-- ITS FALSE NEIGHBOUR: 'it returns false'. Refute it at one input. -/
def asciiBytesWrong : ChangeSpec := { name := "asciiBytes", fn := fun _ => fun
  | [d] => { results := [.lit (.bool false)], args := [d] }
  | _ => none }
def AsciiBytesWrongFalsely : Prop := asciiBytesRow.holds Try.pinned (OpenSpec.ofChange asciiBytesWrong)

/-- 'parapetlaw1.AsciiWords': WHATEVER THE INPUT: true; the input reads as it did. -/
def asciiWordsSpec : ChangeSpec := { name := "asciiWords", fn := fun _ => fun
  | [d] => { results := [.lit (.bool true)], args := [d] }
  | _ => none }
def asciiWordsRow : OpenClaim := { program := "ytfbimjfgklldaaa", sum := "d9e78bbab048610b25fb76b2f67e99a4fc6637f83325b40da6753d8374596084", func := "parapet/parapetlaw1.AsciiWords", spec := "asciiWords", inPlace := ["internal/bytealg.IndexByteString"], apart := false }
def AsciiWordsSaid : Prop := asciiWordsRow.holds Try.pinned (OpenSpec.ofChange asciiWordsSpec)

/-- ITS FALSE NEIGHBOUR: 'it returns false'. Refute it at one input. -/
def asciiWordsWrong : ChangeSpec := { name := "asciiWords", fn := fun _ => fun
  | [d] => { results := [.lit (.bool false)], args := [d] }
  | _ => none }
def AsciiWordsWrongFalsely : Prop := asciiWordsRow.holds Try.pinned (OpenSpec.ofChange asciiWordsWrong)

/-- 'parapetlaw1.AsciiTrims': WHATEVER THE INPUT: true; the input reads as it did. -/
def asciiTrimsSpec : ChangeSpec := { name := "asciiTrims", fn := fun _ => fun
  | [d1, d2, d3] => { results := [.lit (.bool true)], args := [d1, d2, d3] }
  | _ => none }
def asciiTrimsRow : OpenClaim := { program := "ytfbimjfgklldaaa", sum := "d9e78bbab048610b25fb76b2f67e99a4fc6637f83325b40da6753d8374596084", func := "parapet/parapetlaw1.AsciiTrims", spec := "asciiTrims", inPlace := ["internal/bytealg.IndexByteString"], apart := false }
def AsciiTrimsSaid : Prop := asciiTrimsRow.holds Try.pinned (OpenSpec.ofChange asciiTrimsSpec)

/-- ITS FALSE NEIGHBOUR: 'it returns false'. Refute it at one input. -/
def asciiTrimsWrong : ChangeSpec := { name := "asciiTrims", fn := fun _ => fun
  | [d1, d2, d3] => { results := [.lit (.bool false)], args := [d1, d2, d3] }
  | _ => none }
def AsciiTrimsWrongFalsely : Prop := asciiTrimsRow.holds Try.pinned (OpenSpec.ofChange asciiTrimsWrong)

/- THE SECOND FORM. 'bulk': how many values and letters a reading holds, each counted each time it is reached (what is shared counts as often as it is met; a slice's spare places count too). A statement '..UptoSaid' is the law's where the arguments, and the package variables that the reading takes, are together of bulk at most 1048576: NARROWER than '..Said'. Prove '..Said' where nothing that the law and all that it calls make is longer than what came in: it says more and counts as full. Else prove '..UptoSaid'. A law counts once. -/
mutual
def uptoBulk {H : Type} : DataW H → Nat
  | .lit (.string bytes) => bytes.length + 1
  | .lit _ => 1
  | .nil => 1
  | .ptr d => uptoBulk d + 1
  | .slice elems spare => uptoBulkAll elems + uptoBulkAll spare + 1
  | .agg parts => uptoBulkAll parts + 1
  | .iface _ d => uptoBulk d + 1
  | .map entries => uptoBulkEntries entries + 1
  | .held _ => 1
def uptoBulkAll {H : Type} : List (DataW H) → Nat
  | [] => 0
  | d :: r => uptoBulk d + uptoBulkAll r
def uptoBulkEntries {H : Type} : List (Lit × DataW H) → Nat
  | [] => 0
  | x :: r => uptoBulkEntry x + uptoBulkEntries r
def uptoBulkEntry {H : Type} : Lit × DataW H → Nat
  | (.string bytes, d) => bytes.length + uptoBulk d + 1
  | (_, d) => uptoBulk d + 1
 end
def uptoSmall : (H : Type) → List (DataW H) → Bool := fun _ ds => decide (uptoBulkAll ds ≤ 1048576)
def OpenSpec.upto (s : _root_.Go.ChangeSpec) : _root_.Go.OpenSpec := { _root_.Go.OpenSpec.ofChange s with cond := some uptoSmall }

/-- 'parapetlaw1.AsciiCases', WHERE WHAT IT READS IS OF BULK AT MOST 1048576: true; the input reads as it did. -/
def asciiCasesUptoRow : OpenClaim := { program := "ytfbimjfgklldaaa", sum := "d9e78bbab048610b25fb76b2f67e99a4fc6637f83325b40da6753d8374596084", func := "parapet/parapetlaw1.AsciiCases", spec := "asciiCases", inPlace := ["internal/bytealg.IndexByteString"], apart := false, narrowed := true }
def AsciiCasesUptoSaid : Prop := asciiCasesUptoRow.holds Try.pinned (OpenSpec.upto asciiCasesSpec)

/-- 'parapetlaw1.AsciiAny', WHERE WHAT IT READS IS OF BULK AT MOST 1048576: true; the input reads as it did. -/
def asciiAnyUptoRow : OpenClaim := { program := "ytfbimjfgklldaaa", sum := "d9e78bbab048610b25fb76b2f67e99a4fc6637f83325b40da6753d8374596084", func := "parapet/parapetlaw1.AsciiAny", spec := "asciiAny", inPlace := ["internal/bytealg.IndexByteString"], apart := false, narrowed := true }
def AsciiAnyUptoSaid : Prop := asciiAnyUptoRow.holds Try.pinned (OpenSpec.upto asciiAnySpec)

/-- 'parapetlaw1.AsciiTokens', WHERE WHAT IT READS IS OF BULK AT MOST 1048576: true; the input reads as it did. -/
def asciiTokensUptoRow : OpenClaim := { program := "ytfbimjfgklldaaa", sum := "d9e78bbab048610b25fb76b2f67e99a4fc6637f83325b40da6753d8374596084", func := "parapet/parapetlaw1.AsciiTokens", spec := "asciiTokens", inPlace := ["internal/bytealg.IndexByteString"], apart := false, narrowed := true }
def AsciiTokensUptoSaid : Prop := asciiTokensUptoRow.holds Try.pinned (OpenSpec.upto asciiTokensSpec)

/-- 'parapetlaw1.AsciiCuts', WHERE WHAT IT READS IS OF BULK AT MOST 1048576: true; the input reads as it did. -/
def asciiCutsUptoRow : OpenClaim := { program := "ytfbimjfgklldaaa", sum := "d9e78bbab048610b25fb76b2f67e99a4fc6637f83325b40da6753d8374596084", func := "parapet/parapetlaw1.AsciiCuts", spec := "asciiCuts", inPlace := ["internal/bytealg.IndexByteString"], apart := false, narrowed := true }
def AsciiCutsUptoSaid : Prop := asciiCutsUptoRow.holds Try.pinned (OpenSpec.upto asciiCutsSpec)

/-- 'parapetlaw1.AsciiBytes', WHERE WHAT IT READS IS OF BULK AT MOST 1048576: true; the input reads as it did. -/
def asciiBytesUptoRow : OpenClaim := { program := "ytfbimjfgklldaaa", sum := "d9e78bbab048610b25fb76b2f67e99a4fc6637f83325b40da6753d8374596084", func := "parapet/parapetlaw1.AsciiBytes", spec := "asciiBytes", inPlace := ["internal/bytealg.IndexByteString"], apart := false, narrowed := true }
def AsciiBytesUptoSaid : Prop := asciiBytesUptoRow.holds Try.pinned (OpenSpec.upto asciiBytesSpec)

/-- 'parapetlaw1.AsciiWords', WHERE WHAT IT READS IS OF BULK AT MOST 1048576: true; the input reads as it did. -/
def asciiWordsUptoRow : OpenClaim := { program := "ytfbimjfgklldaaa", sum := "d9e78bbab048610b25fb76b2f67e99a4fc6637f83325b40da6753d8374596084", func := "parapet/parapetlaw1.AsciiWords", spec := "asciiWords", inPlace := ["internal/bytealg.IndexByteString"], apart := false, narrowed := true }
def AsciiWordsUptoSaid : Prop := asciiWordsUptoRow.holds Try.pinned (OpenSpec.upto asciiWordsSpec)

/-- 'parapetlaw1.AsciiTrims', WHERE WHAT IT READS IS OF BULK AT MOST 1048576: true; the input reads as it did. -/
def asciiTrimsUptoRow : OpenClaim := { program := "ytfbimjfgklldaaa", sum := "d9e78bbab048610b25fb76b2f67e99a4fc6637f83325b40da6753d8374596084", func := "parapet/parapetlaw1.AsciiTrims", spec := "asciiTrims", inPlace := ["internal/bytealg.IndexByteString"], apart := false, narrowed := true }
def AsciiTrimsUptoSaid : Prop := asciiTrimsUptoRow.holds Try.pinned (OpenSpec.upto asciiTrimsSpec)

end Rows
end Go.Proofs.Ytfbimjfgklldaaa
