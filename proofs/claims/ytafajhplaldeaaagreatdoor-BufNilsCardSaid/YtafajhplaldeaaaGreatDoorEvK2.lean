/- BufNils: the law is evaluated whole. -/
import Derived.Test.YtafajhplaldeaaaGreatDoorEvW1
namespace Go.Ev
open Go Go.RowKit
theorem buf_run : out (run 1000000 (.call 3 [.ext 0, .ext 1, .ext 2] ⟨.e, NG, .on NG 0 0⟩)) = some (.bool true) := by kernel_rfl
def three (a b c : Value) : Nat → Value
  | 0 => a
  | 1 => b
  | _ => c
theorem buf_any (u k : Int) (s : ByteArray) (w : World) (h : NG ≤ w.heap.size) : Calls Go.Proofs.Tryz.prog 3 #[.int .i64 u, .int .i64 k, .string s] w fun e w' => e = .returned (.bool true) ∧ Below w.heap.size w w' :=
  start_yes (E := mkE (fun _ => ⟨#[]⟩) (three (.int .i64 u) (.int .i64 k) (.string s)) 0 (-1)) (seat _ (mkE_plain (fun _ => Nat.zero_le _) (fun k => match k with | 0 => rfl | 1 => rfl | _ + 2 => rfl) (by decide))) mixed buf_run none_dom h none_laid rfl
end Go.Ev
