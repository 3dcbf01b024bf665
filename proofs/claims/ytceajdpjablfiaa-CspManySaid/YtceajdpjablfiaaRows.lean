/-
  No cell of these rows narrows 'for every input' (looked for: loops, veiled, ifaces, maps, wideKeys, modest, calm, conditions, laid).
  DERIVED. THE GIVEN ROWS OF THIS SEAT. 5 by the template 'for every input the law returns true; each argument reads behind the call as it read before'; 0 by the template 'total and deterministic' (their statements: YtceajdpjablfiaaTotals.lean).
  GIVEN WITH THE SEED: the statements are not yours to turn. If you find one false, say at which input.
  Laid BY PROGRAM, IN A SANDBOX (cutbox-rows.mjs): the forced cells as the released guide's own fill.sh prints them over the translation 0e108ec9a5ad330a… (all of the seat's roots in one cut). By AI agents, Wed Nov 11 2026. No macro, syntax, notation, axiom, sorry.
-/
import Derived.Test.YtceajdpjablfiaaChecked
import GoSem.Claim
import GoSem.ClaimJoined
import GoSem.ClaimMapViews
import Derived.JoinedTies
import Derived.KernelRfl
namespace Go.Proofs.Ytceajdpjablfiaa
/- THE CELL 'sum', in the pinned program and in every row, IS THE sha256 OF THE DUMP (.gsa) THAT YtceajdpjablfiaaProg.lean LOADS. Nothing in Lean hashes anything: it is a label: what it is worth is what the hold of that sum in a sandbox is worth. -/
noncomputable def Try.pinned : Pinned := { name := "ytceajdpjablfiaa", sum := "0e108ec9a5ad330a37bf486b261bf4dc83d5e9e295f2fce97729678ef192019d", checked := Try.checked }
namespace Rows
def none {H : Type} : Left H := { results := [], args := [] }

/-- 'parapetlaw14.CspParses': WHATEVER THE INPUT: true; the input reads as it did. -/
def cspParsesSpec : ChangeSpec := { name := "cspParses", fn := fun _ => fun
  | [d] => { results := [.lit (.bool true)], args := [d] }
  | _ => none }
def cspParsesRow : OpenClaim := { program := "ytceajdpjablfiaa", sum := "0e108ec9a5ad330a37bf486b261bf4dc83d5e9e295f2fce97729678ef192019d", func := "parapet/parapetlaw14.CspParses", spec := "cspParses", inPlace := ["internal/bytealg.IndexByteString"], apart := false }
def CspParsesSaid : Prop := cspParsesRow.holds Try.pinned (OpenSpec.ofChange cspParsesSpec)

/-- ITS FALSE NEIGHBOUR: 'it returns false'. Refute it at one input. -/
def cspParsesWrong : ChangeSpec := { name := "cspParses", fn := fun _ => fun
  | [d] => { results := [.lit (.bool false)], args := [d] }
  | _ => none }
def CspParsesWrongFalsely : Prop := cspParsesRow.holds Try.pinned (OpenSpec.ofChange cspParsesWrong)

/-- 'parapetlaw14.CspFinds': WHATEVER THE INPUT: true; the input reads as it did. -/
def cspFindsSpec : ChangeSpec := { name := "cspFinds", fn := fun _ => fun
  | [d1, d2] => { results := [.lit (.bool true)], args := [d1, d2] }
  | _ => none }
def cspFindsRow : OpenClaim := { program := "ytceajdpjablfiaa", sum := "0e108ec9a5ad330a37bf486b261bf4dc83d5e9e295f2fce97729678ef192019d", func := "parapet/parapetlaw14.CspFinds", spec := "cspFinds", inPlace := ["internal/bytealg.IndexByteString", "internal/abi.NoEscape", "internal/bytealg.MakeNoZero"], apart := false }
def CspFindsSaid : Prop := cspFindsRow.holds Try.pinned (OpenSpec.ofChange cspFindsSpec)

/-- ITS FALSE NEIGHBOUR: 'it returns false'. Refute it at one input. -/
def cspFindsWrong : ChangeSpec := { name := "cspFinds", fn := fun _ => fun
  | [d1, d2] => { results := [.lit (.bool false)], args := [d1, d2] }
  | _ => none }
def CspFindsWrongFalsely : Prop := cspFindsRow.holds Try.pinned (OpenSpec.ofChange cspFindsWrong)

/-- 'parapetlaw14.CspBack': WHATEVER THE INPUT: true; the input reads as it did. -/
def cspBackSpec : ChangeSpec := { name := "cspBack", fn := fun _ => fun
  | [d] => { results := [.lit (.bool true)], args := [d] }
  | _ => none }
def cspBackRow : OpenClaim := { program := "ytceajdpjablfiaa", sum := "0e108ec9a5ad330a37bf486b261bf4dc83d5e9e295f2fce97729678ef192019d", func := "parapet/parapetlaw14.CspBack", spec := "cspBack", inPlace := ["internal/bytealg.IndexByteString", "internal/abi.NoEscape", "internal/bytealg.MakeNoZero"], apart := false }
def CspBackSaid : Prop := cspBackRow.holds Try.pinned (OpenSpec.ofChange cspBackSpec)

/-- ITS FALSE NEIGHBOUR: 'it returns false'. Refute it at one input. -/
def cspBackWrong : ChangeSpec := { name := "cspBack", fn := fun _ => fun
  | [d] => { results := [.lit (.bool false)], args := [d] }
  | _ => none }
def CspBackWrongFalsely : Prop := cspBackRow.holds Try.pinned (OpenSpec.ofChange cspBackWrong)

/-- 'parapetlaw14.CspFirst': WHATEVER THE INPUT: true; the input reads as it did. -/
def cspFirstSpec : ChangeSpec := { name := "cspFirst", fn := fun _ => fun
  | [d1, d2] => { results := [.lit (.bool true)], args := [d1, d2] }
  | _ => none }
def cspFirstRow : OpenClaim := { program := "ytceajdpjablfiaa", sum := "0e108ec9a5ad330a37bf486b261bf4dc83d5e9e295f2fce97729678ef192019d", func := "parapet/parapetlaw14.CspFirst", spec := "cspFirst", inPlace := ["internal/bytealg.IndexByteString"], apart := false }
def CspFirstSaid : Prop := cspFirstRow.holds Try.pinned (OpenSpec.ofChange cspFirstSpec)

/-- ITS FALSE NEIGHBOUR: 'it returns false'. Refute it at one input. -/
def cspFirstWrong : ChangeSpec := { name := "cspFirst", fn := fun _ => fun
  | [d1, d2] => { results := [.lit (.bool false)], args := [d1, d2] }
  | _ => none }
def CspFirstWrongFalsely : Prop := cspFirstRow.holds Try.pinned (OpenSpec.ofChange cspFirstWrong)

/-- 'parapetlaw14.CspMany': WHATEVER THE INPUT: true; the input reads as it did. -/
def cspManySpec : ChangeSpec := { name := "cspMany", fn := fun _ => fun
  | [d] => { results := [.lit (.bool true)], args := [d] }
  | _ => none }
def cspManyRow : OpenClaim := { program := "ytceajdpjablfiaa", sum := "0e108ec9a5ad330a37bf486b261bf4dc83d5e9e295f2fce97729678ef192019d", func := "parapet/parapetlaw14.CspMany", spec := "cspMany", inPlace := ["internal/bytealg.IndexByteString"], apart := false }
def CspManySaid : Prop := cspManyRow.holds Try.pinned (OpenSpec.ofChange cspManySpec)

/-- ITS FALSE NEIGHBOUR: 'it returns false'. Refute it at one input. -/
def cspManyWrong : ChangeSpec := { name := "cspMany", fn := fun _ => fun
  | [d] => { results := [.lit (.bool false)], args := [d] }
  | _ => none }
def CspManyWrongFalsely : Prop := cspManyRow.holds Try.pinned (OpenSpec.ofChange cspManyWrong)

/- THE SECOND FORM. 'bulk': how many values and letters a reading holds, each counted each time it is reached (what is shared counts as often as it is met; a slice's spare places count too). A statement '..UptoSaid' is the law's where the arguments, and the package variables that the reading takes, are together of bulk at most 1048576: NARROWER than '..Said'. Prove '..Said' where nothing that the law and all that it calls make is longer than what came in: it says more and counts as full. Else prove '..UptoSaid'. A law counts once. -/
mutual
def uptoBulk {H : Type} : DataW H → Nat
  | .lit (.string bytes) => bytes.length + 1
  | .lit _ => 1
  | .nil => 1
  | .ptr d => uptoBulk d + 1
  | .slice elems spare => uptoBulkAll elems + uptoBulkAll spare + 1
  | .agg parts => uptoBulkAll parts + 1
  | .iface _ d => uptoBulk d + 1
  | .map entries => uptoBulkEntries entries + 1
  | .held _ => 1
def uptoBulkAll {H : Type} : List (DataW H) → Nat
  | [] => 0
  | d :: r => uptoBulk d + uptoBulkAll r
def uptoBulkEntries {H : Type} : List (Lit × DataW H) → Nat
  | [] => 0
  | x :: r => uptoBulkEntry x + uptoBulkEntries r
def uptoBulkEntry {H : Type} : Lit × DataW H → Nat
  | (.string bytes, d) => bytes.length + uptoBulk d + 1
  | (_, d) => uptoBulk d + 1
 end
def uptoSmall : (H : Type) → List (DataW H) → Bool := fun _ ds => decide (uptoBulkAll ds ≤ 1048576)
def OpenSpec.upto (s : _root_.Go.ChangeSpec) : _root_.Go.OpenSpec := { _root_.Go.OpenSpec.ofChange s with cond := some uptoSmall }

/-- 'parapetlaw14.CspParses', WHERE WHAT IT READS IS OF BULK AT MOST 1048576: true; the input reads as it did. -/
def cspParsesUptoRow : OpenClaim := { program := "ytceajdpjablfiaa", sum := "0e108ec9a5ad330a37bf486b261bf4dc83d5e9e295f2fce97729678ef192019d", func := "parapet/parapetlaw14.CspParses", spec := "cspParses", inPlace := ["internal/bytealg.IndexByteString"], apart := false, narrowed := true }
def CspParsesUptoSaid : Prop := cspParsesUptoRow.holds Try.pinned (OpenSpec.upto cspParsesSpec)

/-- 'parapetlaw14.CspFinds', WHERE WHAT IT READS IS OF BULK AT MOST 1048576: true; the input reads as it did. -/
def cspFindsUptoRow : OpenClaim := { program := "ytceajdpjablfiaa", sum := "0e108ec9a5ad330a37bf486b261bf4dc83d5e9e295f2fce97729678ef192019d", func := "parapet/parapetlaw14.CspFinds", spec := "cspFinds", inPlace := ["internal/bytealg.IndexByteString", "internal/abi.NoEscape", "internal/bytealg.MakeNoZero"], apart := false, narrowed := true }
def CspFindsUptoSaid : Prop := cspFindsUptoRow.holds Try.pinned (OpenSpec.upto cspFindsSpec)

/-- 'parapetlaw14.CspBack', WHERE WHAT IT READS IS OF BULK AT MOST 1048576: true; the input reads as it did. -/
def cspBackUptoRow : OpenClaim := { program := "ytceajdpjablfiaa", sum := "0e108ec9a5ad330a37bf486b261bf4dc83d5e9e295f2fce97729678ef192019d", func := "parapet/parapetlaw14.CspBack", spec := "cspBack", inPlace := ["internal/bytealg.IndexByteString", "internal/abi.NoEscape", "internal/bytealg.MakeNoZero"], apart := false, narrowed := true }
def CspBackUptoSaid : Prop := cspBackUptoRow.holds Try.pinned (OpenSpec.upto cspBackSpec)

/-- 'parapetlaw14.CspFirst', WHERE WHAT IT READS IS OF BULK AT MOST 1048576: true; the input reads as it did. -/
def cspFirstUptoRow : OpenClaim := { program := "ytceajdpjablfiaa", sum := "0e108ec9a5ad330a37bf486b261bf4dc83d5e9e295f2fce97729678ef192019d", func := "parapet/parapetlaw14.CspFirst", spec := "cspFirst", inPlace := ["internal/bytealg.IndexByteString"], apart := false, narrowed := true }
def CspFirstUptoSaid : Prop := cspFirstUptoRow.holds Try.pinned (OpenSpec.upto cspFirstSpec)

/-- 'parapetlaw14.CspMany', WHERE WHAT IT READS IS OF BULK AT MOST 1048576: true; the input reads as it did. -/
def cspManyUptoRow : OpenClaim := { program := "ytceajdpjablfiaa", sum := "0e108ec9a5ad330a37bf486b261bf4dc83d5e9e295f2fce97729678ef192019d", func := "parapet/parapetlaw14.CspMany", spec := "cspMany", inPlace := ["internal/bytealg.IndexByteString"], apart := false, narrowed := true }
def CspManyUptoSaid : Prop := cspManyUptoRow.holds Try.pinned (OpenSpec.upto cspManySpec)

end Rows
end Go.Proofs.Ytceajdpjablfiaa
