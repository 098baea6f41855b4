/- gaps and blocks of a file that has no entry. -/
import Derived.Test.YtkjbkiiddnkmaaaMmD
namespace Go.Proofs.Ytkjbkiiddnkmaaa
open Go.RowKit Go.Shelf
set_option linter.unusedVariables false
set_option linter.unusedSimpArgs false
set_option maxRecDepth 100000
attribute [local go_sem] Oper.semAt_some

theorem gaps_in (F : Fence) (n : Nat) (hf : F.fn 70) (hro : F.round = none) (a : Addr) (w : World) :
    CallsIn F n Try.prog 70 #[.pointer (some a)] w fun e w' => e = .returned (.func (.func 82) #[] #[.pointer (some ⟨w.heap.size, 0, none⟩)]) ∧ w' = w.alloc (.cells #[.pointer (some a)] 108) := by
  refine callsIn_of_wp Try.func70 rfl hf ?_ hro
  simp only [Try.ntmps70, List.size_toArray, List.length_cons, List.length_nil, Nat.reduceAdd, Nat.reduceSub, Array.replicate_succ, Array.replicate_zero, List.push_toArray, List.append_toArray, List.nil_append, List.cons_append]
  gi_wp2
  go_ret
  exact ⟨rfl, rfl⟩
theorem gaps_stops0 (F : Fence) (n : Nat) (hf : F.fn 82) (ha : F.fn 50) (ha1 : F.fn 69) (hro : F.round = none) (hn : 3 ≤ n) (Bs g n₀ : Nat) (w : World) (hB : Bs < w.heap.size) (hg : g < w.heap.size) (hBs : w.cell? ⟨Bs, 0, none⟩ = some (.pointer (some ⟨g, 2, none⟩))) (hc : w.cell? ⟨g, 3, none⟩ = some (.slice none 0 0)) :
    SeqStopsK F n Try.prog 82 #[.pointer (some ⟨Bs, 0, none⟩)] en2 (Below n₀) (fun ys => ys = []) (fun _ => False) 0 w := fun l J Jx W hW hJ _ hY h0 =>
  (gaps1_nil F n hf ha ha1 hro hn l Bs g J W hJ ((hW.cell (p := ⟨Bs, 0, none⟩) hB).trans hBs) (Nat.lt_of_lt_of_le hB hW.size) (Nat.lt_of_lt_of_le hg hW.size) ((hW.cell (p := ⟨g, 3, none⟩) hg).trans hc) h0).mono fun e W' ⟨he, hj⟩ => ⟨he, .inl ⟨_, rfl, hj⟩⟩
theorem blocks_nil (g : Nat) (w : World) (hc : w.cell? ⟨g, 3, none⟩ = some (.slice none 0 0)) :
    Calls Try.prog 60 #[.pointer (some ⟨g, 2, none⟩)] w fun e w' => e = .returned (.int .i64 1) ∧ Below w.heap.size w w' := by
  go_enter Try.func60, Try.ntmps60
  go_wp2
  go_loopw [3, 11] (fun t i wr => t = .int .i64 1 ∧ i = .int .i64 0 ∧ Below w.heap.size w wr) (fun _ _ _ => 0)
  case atStart => exact ⟨rfl, rfl, Below.refl _ _⟩
  case round =>
    obtain ⟨rfl, rfl, hb⟩ := hrel
    go_wp2
    go_ret
    exact ⟨rfl, hb⟩
end Go.Proofs.Ytkjbkiiddnkmaaa
