/- BtreeNil: the law is evaluated whole, where its text is not too long; its known. -/
import Derived.Test.YtafajhplaldeaaaEvW1
namespace Go.Ev
open Go Go.RowKit
theorem known_run : out (run 1000000 (.call 4 [] ⟨.e, NG, .on NG 0 0⟩)) = some (.bool true) := by kernel_rfl
theorem pos_run : out (run 1000000 (.call 3 [.ext 500, .ext 2000] ⟨.e, NG, .on NG 0 0⟩)) = some (.bool true) := by kernel_rfl
theorem neg_run : out (run 1000000 (.call 3 [.ext 500, .ext 2250] ⟨.e, NG, .on NG 0 0⟩)) = some (.bool true) := by kernel_rfl
theorem known_any (w : World) : Calls Go.Proofs.Try.prog 4 #[] w fun e w' => e = .returned (.bool true) ∧ Below w.heap.size w w' :=
  start_yes (E := noE) (seat _ noE_plain) mixed known_run none_dom (Nat.zero_le _) none_laid rfl
theorem nil_any (s : ByteArray) (n : Int) (w : World) (hs : s.size ≤ LB) : Calls Go.Proofs.Try.prog 3 #[.string s, .int .i64 n] w fun e w' => e = .returned (.bool true) ∧ Below w.heap.size w w' := by
  rcases Int.lt_or_le n 0 with h | h
  · exact start_yes (E := mkE (fun _ => s) (fun _ => .bool false) 0 n) (seat _ (mkE_plain (fun _ => hs) (fun _ => rfl) h)) mixed neg_run none_dom (Nat.zero_le _) none_laid rfl
  · obtain ⟨m, rfl⟩ := Int.eq_ofNat_of_zero_le h
    exact start_yes (E := mkE (fun _ => s) (fun _ => .bool false) m (-1)) (seat _ (mkE_plain (fun _ => hs) (fun _ => rfl) (by decide))) mixed pos_run none_dom (Nat.zero_le _) none_laid rfl
end Go.Ev
