/- What the evaluator asks of the program. -/
import Derived.Test.YtafajhplaldeaaaEvE3
import Derived.KernelRfl
set_option linter.unusedVariables false
namespace Go.Ev
open Go
theorem mixed : PP.follows .mixedOrders = true := by kernel_rfl
theorem named_all : (PP.funcs.toList.all fun fn => fn.body.isNone || !(fn.name == "runtime.NumGoroutine")) = true := by kernel_rfl
theorem x59 : IsExt 59 (fun _ => do mark .disable; pure Extern.Race.none_) := ⟨⟨_, Go.Proofs.Try.func59, by kernel_rfl, by kernel_rfl, by kernel_rfl, by kernel_rfl⟩⟩
theorem x60 : IsExt 60 (Extern.Atomic.casT (.int .i32)) := ⟨⟨_, Go.Proofs.Try.func60, by kernel_rfl, by kernel_rfl, by kernel_rfl, by kernel_rfl⟩⟩
theorem x61 : IsExt 61 (fun _ => do mark .enable; pure Extern.Race.none_) := ⟨⟨_, Go.Proofs.Try.func61, by kernel_rfl, by kernel_rfl, by kernel_rfl, by kernel_rfl⟩⟩
theorem x62 : IsExt 62 (Extern.Race.marked .acquire) := ⟨⟨_, Go.Proofs.Try.func62, by kernel_rfl, by kernel_rfl, by kernel_rfl, by kernel_rfl⟩⟩
theorem x64 : IsExt 64 (Extern.Race.marked .releaseMerge) := ⟨⟨_, Go.Proofs.Try.func64, by kernel_rfl, by kernel_rfl, by kernel_rfl, by kernel_rfl⟩⟩
theorem x65 : IsExt 65 (Extern.Atomic.update (Op.intArith .add) .i32 true) := ⟨⟨_, Go.Proofs.Try.func65, by kernel_rfl, by kernel_rfl, by kernel_rfl, by kernel_rfl⟩⟩
theorem seat (E : Nat → Value) (hE : Plain E) : Seat E := by
  refine ⟨hE, fun f fn c hf hb => ?_, fun f e h => ?_⟩
  · have h := List.all_eq_true.1 named_all fn (Array.mem_toList_iff.2 (Array.mem_of_getElem? hf))
    rw [hb] at h
    simpa using h
  · unfold XX at h
    split at h
    · cases h; exact ext_nothing x59 (fun _ _ => rfl)
    · cases h; exact ext_cas hE x60
    · cases h; exact ext_nothing x61 (fun _ _ => rfl)
    · cases h; exact ext_marked x62
    · cases h; exact ext_marked x64
    · cases h; exact ext_add hE x65
    · cases h
/-- a call at the start, of arguments that are looked at nowhere -/
theorem none_laid {E : Nat → Value} {w : World} : ∀ b o, (T.e : T VO).get b = some o → ObjOk E (rho0 w) w b o := fun b o h => by rw [T.get_e] at h; cases h
theorem none_dom : ∀ b o, (T.e : T VO).get b = some o → b < NG := fun b o h => by rw [T.get_e] at h; cases h
end Go.Ev
