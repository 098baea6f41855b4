/- What the evaluator asks of the program. -/
import Derived.Test.YtafajhplaldeaaaGreatDoorEvE3
import Derived.KernelRfl
set_option linter.unusedVariables false
namespace Go.Ev
open Go
theorem mixed : PP.follows .mixedOrders = true := by kernel_rfl
theorem named_all : (PP.funcs.toList.all fun fn => fn.body.isNone || !(fn.name == "runtime.NumGoroutine")) = true := by kernel_rfl
theorem x151 : IsExt 151 Extern.MapsClone.clone := ⟨⟨_, Go.Proofs.Tryz.func151, by kernel_rfl, by kernel_rfl, by kernel_rfl, by kernel_rfl⟩⟩
theorem x172 : IsExt 172 (fun _ => do mark .disable; pure Extern.Race.none_) := ⟨⟨_, Go.Proofs.Tryz.func172, by kernel_rfl, by kernel_rfl, by kernel_rfl, by kernel_rfl⟩⟩
theorem x173 : IsExt 173 (Extern.Atomic.casT (.int .i32)) := ⟨⟨_, Go.Proofs.Tryz.func173, by kernel_rfl, by kernel_rfl, by kernel_rfl, by kernel_rfl⟩⟩
theorem x174 : IsExt 174 (fun _ => do mark .enable; pure Extern.Race.none_) := ⟨⟨_, Go.Proofs.Tryz.func174, by kernel_rfl, by kernel_rfl, by kernel_rfl, by kernel_rfl⟩⟩
theorem x175 : IsExt 175 (Extern.Race.marked .acquire) := ⟨⟨_, Go.Proofs.Tryz.func175, by kernel_rfl, by kernel_rfl, by kernel_rfl, by kernel_rfl⟩⟩
theorem x177 : IsExt 177 (Extern.Race.marked .releaseMerge) := ⟨⟨_, Go.Proofs.Tryz.func177, by kernel_rfl, by kernel_rfl, by kernel_rfl, by kernel_rfl⟩⟩
theorem x178 : IsExt 178 (Extern.Atomic.update (Op.intArith .add) .i32 true) := ⟨⟨_, Go.Proofs.Tryz.func178, by kernel_rfl, by kernel_rfl, by kernel_rfl, by kernel_rfl⟩⟩
theorem x243 : ∃ ps t, PP.underlying t = some (.slice 5) ∧ IsExt 243 (Extern.BytealgMakeNoZero.makeNoZero ps #[t]) := ⟨Go.Proofs.Tryz.f243.params, 53, by kernel_rfl, ⟨⟨_, Go.Proofs.Tryz.func243, by kernel_rfl, by kernel_rfl, by kernel_rfl, by kernel_rfl⟩⟩⟩
theorem x262 : IsExt 262 Extern.AbiNoEscape.same := ⟨⟨_, Go.Proofs.Tryz.func262, by kernel_rfl, by kernel_rfl, by kernel_rfl, by kernel_rfl⟩⟩
theorem x273 : IsExt 273 Extern.BytealgIndexByte.indexByte := ⟨⟨_, Go.Proofs.Tryz.func273, by kernel_rfl, by kernel_rfl, by kernel_rfl, by kernel_rfl⟩⟩
theorem seat (E : Nat → Value) (hE : Plain E) : Seat E := by
  refine ⟨hE, fun f fn c hf hb => ?_, fun f e h => ?_⟩
  · have h := List.all_eq_true.1 named_all fn (Array.mem_toList_iff.2 (Array.mem_of_getElem? hf))
    rw [hb] at h
    simpa using h
  · unfold XX at h
    split at h
    · cases h; exact ext_mapClone x151
    · cases h; exact ext_nothing x172 (fun _ _ => rfl)
    · cases h; exact ext_cas hE x173
    · cases h; exact ext_nothing x174 (fun _ _ => rfl)
    · cases h; exact ext_marked x175
    · cases h; exact ext_marked x177
    · cases h; exact ext_add hE x178
    · cases h; obtain ⟨_, _, ht, hx⟩ := x243; exact ext_makeNoZero ht hx
    · cases h; exact ext_same x262
    · cases h; exact ext_indexByte x273
    · cases h
/-- a call at the start, of arguments that are looked at nowhere -/
theorem none_laid {E : Nat → Value} {w : World} : ∀ b o, (T.e : T VO).get b = some o → ObjOk E (rho0 w) w b o := fun b o h => by rw [T.get_e] at h; cases h
theorem none_dom : ∀ b o, (T.e : T VO).get b = some o → b < NG := fun b o h => by rw [T.get_e] at h; cases h
end Go.Ev
