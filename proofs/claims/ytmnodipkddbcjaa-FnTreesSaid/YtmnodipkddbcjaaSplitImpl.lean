/-
  SplitAny of the program: the contract (no statement of its own).
-/
import Derived.Test.YtmnodipkddbcjaaProg
import Derived.Test.YtmnodipkddbcjaaMath
import Derived.Test.YtmnodipkddbcjaaOwn
import Derived.WalkKit
import Derived.WalkSpells
import Derived.BigQuiet
import Derived.ProofKit
import Derived.OpenShut
import Derived.ShutString
import Derived.Lib.Hide
namespace Go.Proofs.Ytmnodipkddbcjaa
open Go.RowKit
set_option linter.unusedVariables false
set_option linter.unusedSimpArgs false

theorem infoStr : (Try.prog.info? 9).map (fun i => (i.zero, i.size, i.bytes)) = some (some (.string ByteArray.empty), 1, 16) := by kernel_rfl
/-- the value is a slice of the call's own, from block B on, of just these strings -/
def OwnsStrs (w : World) (B : Nat) (v : Value) (ss : List ByteArray) : Prop := w.ownsRow B 9 1 v ss.length (ss.map Value.string)
theorem strs_snoc {w : World} {B : Nat} {v : Value} {ss : List ByteArray} {x : ByteArray} (h : w.ownsRow B 9 1 v (ss.length + 1) (ss.map Value.string ++ [.string x])) : OwnsStrs w B v (ss ++ [x]) := by
  unfold OwnsStrs; simpa using h
abbrev tabV (B : Nat) : Value := .slice (some ⟨B, 0, none⟩) 256 256
end Go.Proofs.Ytmnodipkddbcjaa
