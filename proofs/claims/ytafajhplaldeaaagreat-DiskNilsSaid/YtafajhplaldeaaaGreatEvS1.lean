/- What the evaluator asks of the program. -/
import Derived.Test.YtafajhplaldeaaaGreatEvE3
import Derived.KernelRfl
set_option linter.unusedVariables false
namespace Go.Ev
open Go
theorem mixed : PP.follows .mixedOrders = true := by kernel_rfl
theorem named_all : (PP.funcs.toList.all fun fn => fn.body.isNone || !(fn.name == "runtime.NumGoroutine")) = true := by kernel_rfl
theorem x87 : IsExt 87 Extern.MapsClone.clone := ⟨⟨_, Go.Proofs.Tryz.func87, by kernel_rfl, by kernel_rfl, by kernel_rfl, by kernel_rfl⟩⟩
theorem x90 : IsExt 90 (fun _ => do mark .disable; pure Extern.Race.none_) := ⟨⟨_, Go.Proofs.Tryz.func90, by kernel_rfl, by kernel_rfl, by kernel_rfl, by kernel_rfl⟩⟩
theorem x91 : IsExt 91 (Extern.Atomic.casT (.int .i32)) := ⟨⟨_, Go.Proofs.Tryz.func91, by kernel_rfl, by kernel_rfl, by kernel_rfl, by kernel_rfl⟩⟩
theorem x92 : IsExt 92 (fun _ => do mark .enable; pure Extern.Race.none_) := ⟨⟨_, Go.Proofs.Tryz.func92, by kernel_rfl, by kernel_rfl, by kernel_rfl, by kernel_rfl⟩⟩
theorem x93 : IsExt 93 (Extern.Race.marked .acquire) := ⟨⟨_, Go.Proofs.Tryz.func93, by kernel_rfl, by kernel_rfl, by kernel_rfl, by kernel_rfl⟩⟩
theorem x95 : IsExt 95 (Extern.Race.marked .releaseMerge) := ⟨⟨_, Go.Proofs.Tryz.func95, by kernel_rfl, by kernel_rfl, by kernel_rfl, by kernel_rfl⟩⟩
theorem x96 : IsExt 96 (Extern.Atomic.update (Op.intArith .add) .i32 true) := ⟨⟨_, Go.Proofs.Tryz.func96, by kernel_rfl, by kernel_rfl, by kernel_rfl, by kernel_rfl⟩⟩
theorem seat (E : Nat → Value) (hE : Plain E) : Seat E := by
  refine ⟨hE, fun f fn c hf hb => ?_, fun f e h => ?_⟩
  · have h := List.all_eq_true.1 named_all fn (Array.mem_toList_iff.2 (Array.mem_of_getElem? hf))
    rw [hb] at h
    simpa using h
  · unfold XX at h
    split at h
    · cases h; exact ext_mapClone x87
    · cases h; exact ext_nothing x90 (fun _ _ => rfl)
    · cases h; exact ext_cas hE x91
    · cases h; exact ext_nothing x92 (fun _ _ => rfl)
    · cases h; exact ext_marked x93
    · cases h; exact ext_marked x95
    · cases h; exact ext_add hE x96
    · cases h
/-- a call at the start, of arguments that are looked at nowhere -/
theorem none_laid {E : Nat → Value} {w : World} : ∀ b o, (T.e : T VO).get b = some o → ObjOk E (rho0 w) w b o := fun b o h => by rw [T.get_e] at h; cases h
theorem none_dom : ∀ b o, (T.e : T VO).get b = some o → b < NG := fun b o h => by rw [T.get_e] at h; cases h
end Go.Ev
