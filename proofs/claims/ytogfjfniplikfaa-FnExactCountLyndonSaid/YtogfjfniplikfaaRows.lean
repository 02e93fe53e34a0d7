/-
  No cell of these rows narrows 'for every input' (looked for: loops, veiled, ifaces, maps, wideKeys, modest, calm, conditions, laid).
  DERIVED. THE GIVEN ROWS OF THIS SEAT. 7 by the template 'for every input the law returns true; each argument reads behind the call as it read before'; 0 by the template 'total and deterministic' (their statements: YtogfjfniplikfaaTotals.lean).
  GIVEN WITH THE SEED: the statements are not yours to turn. If you find one false, say at which input.
  Laid BY PROGRAM, IN A SANDBOX (cutbox-rows.mjs): the forced cells as the released guide's own fill.sh prints them over the translation c1506ede0e5b4193… (all of the seat's roots in one cut). By AI agents, Wed Nov 11 2026. No macro, syntax, notation, axiom, sorry.
-/
import Derived.Test.YtogfjfniplikfaaChecked
import GoSem.Claim
import GoSem.ClaimJoined
import GoSem.ClaimMapViews
import Derived.JoinedTies
import Derived.KernelRfl
namespace Go.Proofs.Ytogfjfniplikfaa
/- THE CELL 'sum', in the pinned program and in every row, IS THE sha256 OF THE DUMP (.gsa) THAT YtogfjfniplikfaaProg.lean LOADS. Nothing in Lean hashes anything: it is a label: what it is worth is what the hold of that sum in a sandbox is worth. -/
noncomputable def Try.pinned : Pinned := { name := "ytogfjfniplikfaa", sum := "c1506ede0e5b4193f06c910f0da48d281ed45476f6f8065f0b0c2f5542801f9b", checked := Try.checked }
namespace Rows
def none {H : Type} : Left H := { results := [], args := [] }

/-- 'laws.FnExactCountNecklaces': WHATEVER THE INPUT: true; the input reads as it did. -/
def fnExactCountNecklacesSpec : ChangeSpec := { name := "fnExactCountNecklaces", fn := fun _ => fun
  | [d1, d2] => { results := [.lit (.bool true)], args := [d1, d2] }
  | _ => none }
def fnExactCountNecklacesRow : OpenClaim := { program := "ytogfjfniplikfaa", sum := "c1506ede0e5b4193f06c910f0da48d281ed45476f6f8065f0b0c2f5542801f9b", func := "loop.example/g01041/laws.FnExactCountNecklaces", spec := "fnExactCountNecklaces", unfollowed := true, recurses := true, apart := false }
def FnExactCountNecklacesSaid : Prop := fnExactCountNecklacesRow.holds Try.pinned (OpenSpec.ofChange fnExactCountNecklacesSpec)

/-- ITS FALSE NEIGHBOUR: 'it returns false'. Refute it at one input. -/
def fnExactCountNecklacesWrong : ChangeSpec := { name := "fnExactCountNecklaces", fn := fun _ => fun
  | [d1, d2] => { results := [.lit (.bool false)], args := [d1, d2] }
  | _ => none }
def FnExactCountNecklacesWrongFalsely : Prop := fnExactCountNecklacesRow.holds Try.pinned (OpenSpec.ofChange fnExactCountNecklacesWrong)

/-- 'laws.FnExactCountLyndon': WHATEVER THE INPUT: true; the input reads as it did. -/
def fnExactCountLyndonSpec : ChangeSpec := { name := "fnExactCountLyndon", fn := fun _ => fun
  | [d1, d2] => { results := [.lit (.bool true)], args := [d1, d2] }
  | _ => none }
def fnExactCountLyndonRow : OpenClaim := { program := "ytogfjfniplikfaa", sum := "c1506ede0e5b4193f06c910f0da48d281ed45476f6f8065f0b0c2f5542801f9b", func := "loop.example/g01041/laws.FnExactCountLyndon", spec := "fnExactCountLyndon", unfollowed := true, recurses := true, apart := false }
def FnExactCountLyndonSaid : Prop := fnExactCountLyndonRow.holds Try.pinned (OpenSpec.ofChange fnExactCountLyndonSpec)

/-- ITS FALSE NEIGHBOUR: 'it returns false'. Refute it at one input. -/
def fnExactCountLyndonWrong : ChangeSpec := { name := "fnExactCountLyndon", fn := fun _ => fun
  | [d1, d2] => { results := [.lit (.bool false)], args := [d1, d2] }
  | _ => none }
def FnExactCountLyndonWrongFalsely : Prop := fnExactCountLyndonRow.holds Try.pinned (OpenSpec.ofChange fnExactCountLyndonWrong)

/-- 'laws.FnExactMirrorWord': WHATEVER THE INPUT: true; the input reads as it did. -/
def fnExactMirrorWordSpec : ChangeSpec := { name := "fnExactMirrorWord", fn := fun _ => fun
  | [d] => { results := [.lit (.bool true)], args := [d] }
  | _ => none }
def fnExactMirrorWordRow : OpenClaim := { program := "ytogfjfniplikfaa", sum := "c1506ede0e5b4193f06c910f0da48d281ed45476f6f8065f0b0c2f5542801f9b", func := "loop.example/g01041/laws.FnExactMirrorWord", spec := "fnExactMirrorWord", apart := false }
def FnExactMirrorWordSaid : Prop := fnExactMirrorWordRow.holds Try.pinned (OpenSpec.ofChange fnExactMirrorWordSpec)

/-- ITS FALSE NEIGHBOUR: 'it returns false'. Refute it at one input. -/
def fnExactMirrorWordWrong : ChangeSpec := { name := "fnExactMirrorWord", fn := fun _ => fun
  | [d] => { results := [.lit (.bool false)], args := [d] }
  | _ => none }
def FnExactMirrorWordWrongFalsely : Prop := fnExactMirrorWordRow.holds Try.pinned (OpenSpec.ofChange fnExactMirrorWordWrong)

/-- 'laws.FnExactCountMirrored': WHATEVER THE INPUT: true; the input reads as it did. -/
def fnExactCountMirroredSpec : ChangeSpec := { name := "fnExactCountMirrored", fn := fun _ => fun
  | [d1, d2] => { results := [.lit (.bool true)], args := [d1, d2] }
  | _ => none }
def fnExactCountMirroredRow : OpenClaim := { program := "ytogfjfniplikfaa", sum := "c1506ede0e5b4193f06c910f0da48d281ed45476f6f8065f0b0c2f5542801f9b", func := "loop.example/g01041/laws.FnExactCountMirrored", spec := "fnExactCountMirrored", apart := false }
def FnExactCountMirroredSaid : Prop := fnExactCountMirroredRow.holds Try.pinned (OpenSpec.ofChange fnExactCountMirroredSpec)

/-- ITS FALSE NEIGHBOUR: 'it returns false'. Refute it at one input. -/
def fnExactCountMirroredWrong : ChangeSpec := { name := "fnExactCountMirrored", fn := fun _ => fun
  | [d1, d2] => { results := [.lit (.bool false)], args := [d1, d2] }
  | _ => none }
def FnExactCountMirroredWrongFalsely : Prop := fnExactCountMirroredRow.holds Try.pinned (OpenSpec.ofChange fnExactCountMirroredWrong)

/-- 'laws.FnExactCountBracelets': WHATEVER THE INPUT: true; the input reads as it did. -/
def fnExactCountBraceletsSpec : ChangeSpec := { name := "fnExactCountBracelets", fn := fun _ => fun
  | [d1, d2] => { results := [.lit (.bool true)], args := [d1, d2] }
  | _ => none }
def fnExactCountBraceletsRow : OpenClaim := { program := "ytogfjfniplikfaa", sum := "c1506ede0e5b4193f06c910f0da48d281ed45476f6f8065f0b0c2f5542801f9b", func := "loop.example/g01041/laws.FnExactCountBracelets", spec := "fnExactCountBracelets", unfollowed := true, recurses := true, apart := false }
def FnExactCountBraceletsSaid : Prop := fnExactCountBraceletsRow.holds Try.pinned (OpenSpec.ofChange fnExactCountBraceletsSpec)

/-- ITS FALSE NEIGHBOUR: 'it returns false'. Refute it at one input. -/
def fnExactCountBraceletsWrong : ChangeSpec := { name := "fnExactCountBracelets", fn := fun _ => fun
  | [d1, d2] => { results := [.lit (.bool false)], args := [d1, d2] }
  | _ => none }
def FnExactCountBraceletsWrongFalsely : Prop := fnExactCountBraceletsRow.holds Try.pinned (OpenSpec.ofChange fnExactCountBraceletsWrong)

/-- 'laws.FnExactAxesOf': WHATEVER THE INPUT: true; the input reads as it did. -/
def fnExactAxesOfSpec : ChangeSpec := { name := "fnExactAxesOf", fn := fun _ => fun
  | [d] => { results := [.lit (.bool true)], args := [d] }
  | _ => none }
def fnExactAxesOfRow : OpenClaim := { program := "ytogfjfniplikfaa", sum := "c1506ede0e5b4193f06c910f0da48d281ed45476f6f8065f0b0c2f5542801f9b", func := "loop.example/g01041/laws.FnExactAxesOf", spec := "fnExactAxesOf", apart := false }
def FnExactAxesOfSaid : Prop := fnExactAxesOfRow.holds Try.pinned (OpenSpec.ofChange fnExactAxesOfSpec)

/-- ITS FALSE NEIGHBOUR: 'it returns false'. Refute it at one input. -/
def fnExactAxesOfWrong : ChangeSpec := { name := "fnExactAxesOf", fn := fun _ => fun
  | [d] => { results := [.lit (.bool false)], args := [d] }
  | _ => none }
def FnExactAxesOfWrongFalsely : Prop := fnExactAxesOfRow.holds Try.pinned (OpenSpec.ofChange fnExactAxesOfWrong)

/-- 'laws.FnExactHandedPairs': WHATEVER THE INPUT: true; the input reads as it did. -/
def fnExactHandedPairsSpec : ChangeSpec := { name := "fnExactHandedPairs", fn := fun _ => fun
  | [d1, d2] => { results := [.lit (.bool true)], args := [d1, d2] }
  | _ => none }
def fnExactHandedPairsRow : OpenClaim := { program := "ytogfjfniplikfaa", sum := "c1506ede0e5b4193f06c910f0da48d281ed45476f6f8065f0b0c2f5542801f9b", func := "loop.example/g01041/laws.FnExactHandedPairs", spec := "fnExactHandedPairs", unfollowed := true, recurses := true, apart := false }
def FnExactHandedPairsSaid : Prop := fnExactHandedPairsRow.holds Try.pinned (OpenSpec.ofChange fnExactHandedPairsSpec)

/-- ITS FALSE NEIGHBOUR: 'it returns false'. Refute it at one input. -/
def fnExactHandedPairsWrong : ChangeSpec := { name := "fnExactHandedPairs", fn := fun _ => fun
  | [d1, d2] => { results := [.lit (.bool false)], args := [d1, d2] }
  | _ => none }
def FnExactHandedPairsWrongFalsely : Prop := fnExactHandedPairsRow.holds Try.pinned (OpenSpec.ofChange fnExactHandedPairsWrong)

/- THE SECOND FORM. 'bulk': how many values and letters a reading holds, each counted each time it is reached (what is shared counts as often as it is met; a slice's spare places count too). A statement '..UptoSaid' is the law's where the arguments, and the package variables that the reading takes, are together of bulk at most 1048576: NARROWER than '..Said'. Prove '..Said' where nothing that the law and all that it calls make is longer than what came in: it says more and counts as full. Else prove '..UptoSaid'. A law counts once. -/
mutual
def uptoBulk {H : Type} : DataW H → Nat
  | .lit (.string bytes) => bytes.length + 1
  | .lit _ => 1
  | .nil => 1
  | .ptr d => uptoBulk d + 1
  | .slice elems spare => uptoBulkAll elems + uptoBulkAll spare + 1
  | .agg parts => uptoBulkAll parts + 1
  | .iface _ d => uptoBulk d + 1
  | .map entries => uptoBulkEntries entries + 1
  | .held _ => 1
def uptoBulkAll {H : Type} : List (DataW H) → Nat
  | [] => 0
  | d :: r => uptoBulk d + uptoBulkAll r
def uptoBulkEntries {H : Type} : List (Lit × DataW H) → Nat
  | [] => 0
  | x :: r => uptoBulkEntry x + uptoBulkEntries r
def uptoBulkEntry {H : Type} : Lit × DataW H → Nat
  | (.string bytes, d) => bytes.length + uptoBulk d + 1
  | (_, d) => uptoBulk d + 1
 end
def uptoSmall : (H : Type) → List (DataW H) → Bool := fun _ ds => decide (uptoBulkAll ds ≤ 1048576)
def OpenSpec.upto (s : _root_.Go.ChangeSpec) : _root_.Go.OpenSpec := { _root_.Go.OpenSpec.ofChange s with cond := some uptoSmall }

/-- 'laws.FnExactCountNecklaces', WHERE WHAT IT READS IS OF BULK AT MOST 1048576: true; the input reads as it did. -/
def fnExactCountNecklacesUptoRow : OpenClaim := { program := "ytogfjfniplikfaa", sum := "c1506ede0e5b4193f06c910f0da48d281ed45476f6f8065f0b0c2f5542801f9b", func := "loop.example/g01041/laws.FnExactCountNecklaces", spec := "fnExactCountNecklaces", unfollowed := true, recurses := true, apart := false, narrowed := true }
def FnExactCountNecklacesUptoSaid : Prop := fnExactCountNecklacesUptoRow.holds Try.pinned (OpenSpec.upto fnExactCountNecklacesSpec)

/-- 'laws.FnExactCountLyndon', WHERE WHAT IT READS IS OF BULK AT MOST 1048576: true; the input reads as it did. -/
def fnExactCountLyndonUptoRow : OpenClaim := { program := "ytogfjfniplikfaa", sum := "c1506ede0e5b4193f06c910f0da48d281ed45476f6f8065f0b0c2f5542801f9b", func := "loop.example/g01041/laws.FnExactCountLyndon", spec := "fnExactCountLyndon", unfollowed := true, recurses := true, apart := false, narrowed := true }
def FnExactCountLyndonUptoSaid : Prop := fnExactCountLyndonUptoRow.holds Try.pinned (OpenSpec.upto fnExactCountLyndonSpec)

/-- 'laws.FnExactMirrorWord', WHERE WHAT IT READS IS OF BULK AT MOST 1048576: true; the input reads as it did. -/
def fnExactMirrorWordUptoRow : OpenClaim := { program := "ytogfjfniplikfaa", sum := "c1506ede0e5b4193f06c910f0da48d281ed45476f6f8065f0b0c2f5542801f9b", func := "loop.example/g01041/laws.FnExactMirrorWord", spec := "fnExactMirrorWord", apart := false, narrowed := true }
def FnExactMirrorWordUptoSaid : Prop := fnExactMirrorWordUptoRow.holds Try.pinned (OpenSpec.upto fnExactMirrorWordSpec)

/-- 'laws.FnExactCountMirrored', WHERE WHAT IT READS IS OF BULK AT MOST 1048576: true; the input reads as it did. -/
def fnExactCountMirroredUptoRow : OpenClaim := { program := "ytogfjfniplikfaa", sum := "c1506ede0e5b4193f06c910f0da48d281ed45476f6f8065f0b0c2f5542801f9b", func := "loop.example/g01041/laws.FnExactCountMirrored", spec := "fnExactCountMirrored", apart := false, narrowed := true }
def FnExactCountMirroredUptoSaid : Prop := fnExactCountMirroredUptoRow.holds Try.pinned (OpenSpec.upto fnExactCountMirroredSpec)

/-- 'laws.FnExactCountBracelets', WHERE WHAT IT READS IS OF BULK AT MOST 1048576: true; the input reads as it did. -/
def fnExactCountBraceletsUptoRow : OpenClaim := { program := "ytogfjfniplikfaa", sum := "c1506ede0e5b4193f06c910f0da48d281ed45476f6f8065f0b0c2f5542801f9b", func := "loop.example/g01041/laws.FnExactCountBracelets", spec := "fnExactCountBracelets", unfollowed := true, recurses := true, apart := false, narrowed := true }
def FnExactCountBraceletsUptoSaid : Prop := fnExactCountBraceletsUptoRow.holds Try.pinned (OpenSpec.upto fnExactCountBraceletsSpec)

/-- 'laws.FnExactAxesOf', WHERE WHAT IT READS IS OF BULK AT MOST 1048576: true; the input reads as it did. -/
def fnExactAxesOfUptoRow : OpenClaim := { program := "ytogfjfniplikfaa", sum := "c1506ede0e5b4193f06c910f0da48d281ed45476f6f8065f0b0c2f5542801f9b", func := "loop.example/g01041/laws.FnExactAxesOf", spec := "fnExactAxesOf", apart := false, narrowed := true }
def FnExactAxesOfUptoSaid : Prop := fnExactAxesOfUptoRow.holds Try.pinned (OpenSpec.upto fnExactAxesOfSpec)

/-- 'laws.FnExactHandedPairs', WHERE WHAT IT READS IS OF BULK AT MOST 1048576: true; the input reads as it did. -/
def fnExactHandedPairsUptoRow : OpenClaim := { program := "ytogfjfniplikfaa", sum := "c1506ede0e5b4193f06c910f0da48d281ed45476f6f8065f0b0c2f5542801f9b", func := "loop.example/g01041/laws.FnExactHandedPairs", spec := "fnExactHandedPairs", unfollowed := true, recurses := true, apart := false, narrowed := true }
def FnExactHandedPairsUptoSaid : Prop := fnExactHandedPairsUptoRow.holds Try.pinned (OpenSpec.upto fnExactHandedPairsSpec)

end Rows
end Go.Proofs.Ytogfjfniplikfaa
