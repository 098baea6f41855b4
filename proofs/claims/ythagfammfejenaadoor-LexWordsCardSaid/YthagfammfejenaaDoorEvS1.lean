/- What the evaluator asks of the program. -/
import Derived.Test.YthagfammfejenaaDoorEvE3
import Derived.KernelRfl
set_option linter.unusedVariables false
namespace Go.Ev
open Go
theorem mixed : PP.follows .mixedOrders = true := by kernel_rfl
theorem named_all : (PP.funcs.toList.all fun fn => fn.body.isNone || !(fn.name == "runtime.NumGoroutine")) = true := by kernel_rfl
theorem x69 : IsExt 69 Extern.BytealgCount.count := ⟨⟨_, Go.Proofs.Tryd.func69, by kernel_rfl, by kernel_rfl, by kernel_rfl, by kernel_rfl⟩⟩
theorem x97 : IsExt 97 Extern.AbiNoEscape.same := ⟨⟨_, Go.Proofs.Tryd.func97, by kernel_rfl, by kernel_rfl, by kernel_rfl, by kernel_rfl⟩⟩
theorem x111 : IsExt 111 Extern.BytealgIndexByte.indexByte := ⟨⟨_, Go.Proofs.Tryd.func111, by kernel_rfl, by kernel_rfl, by kernel_rfl, by kernel_rfl⟩⟩
theorem seat (E : Nat → Value) (hE : Plain E) : Seat E := by
  refine ⟨hE, fun f fn c hf hb => ?_, fun f e h => ?_⟩
  · have h := List.all_eq_true.1 named_all fn (Array.mem_toList_iff.2 (Array.mem_of_getElem? hf))
    rw [hb] at h
    simpa using h
  · unfold XX at h
    split at h
    · cases h; exact ext_count x69
    · cases h; exact ext_same x97
    · cases h; exact ext_indexByte x111
    · cases h
/-- a call at the start, of arguments that are looked at nowhere -/
theorem none_laid {E : Nat → Value} {w : World} : ∀ b o, (T.e : T VO).get b = some o → ObjOk E (rho0 w) w b o := fun b o h => by rw [T.get_e] at h; cases h
theorem none_dom : ∀ b o, (T.e : T VO).get b = some o → b < NG := fun b o h => by rw [T.get_e] at h; cases h
end Go.Ev
