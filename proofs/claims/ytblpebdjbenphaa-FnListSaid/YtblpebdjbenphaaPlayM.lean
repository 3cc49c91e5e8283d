
/- What a list of commands makes of the empty store. Plain mathematics. -/
import Derived.Test.YtblpebdjbenphaaMg6
import Derived.Test.YtblpebdjbenphaaPerfM
namespace Go.Proofs.Ytblpebdjbenphaa
open Go.ChangeShapes Go.WideShapes Go.ChangeAt Go.RowKit
set_option linter.unusedVariables false
set_option maxRecDepth 100000

def playK (l : Cmds) : Nat → Els × List Int
  | 0 => ([], [])
  | k + 1 => ((performE (cmd0 l k) (cmd1 l k) (cmd2 l k) (cmd3 l k) (playK l k).1).1, (playK l k).2 ++ [(performE (cmd0 l k) (cmd1 l k) (cmd2 l k) (cmd3 l k) (playK l k).1).2.2])
theorem play_ep (l : Cmds) : ∀ k, EP (playK l k).1
  | 0 => ep_nil
  | k + 1 => perf_ep (play_ep l k)
theorem play_len (l : Cmds) : ∀ k, (playK l k).2.length = k
  | 0 => rfl
  | k + 1 => by show ((playK l k).2 ++ [_]).length = k + 1; rw [List.length_append, play_len l k]; rfl
/-- What StorePlayed comes to: too many commands make nothing. -/
def playE (l : Cmds) (len : Nat) : Els × List Int := if 200 < len then ([], []) else playK l len
theorem playE_ep (l : Cmds) (len : Nat) : EP (playE l len).1 := by
  unfold playE; split
  · exact ep_nil
  · exact play_ep l len
end Go.Proofs.Ytblpebdjbenphaa
