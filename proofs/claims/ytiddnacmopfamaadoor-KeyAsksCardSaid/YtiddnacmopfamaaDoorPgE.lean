/- Count of both. -/
import Derived.Test.YtiddnacmopfamaaDoorPgD
namespace Go.Proofs.YtiddnacmopfamaaDoor
open Go.RowKit
set_option linter.unusedVariables false
set_option linter.unusedSimpArgs false

theorem results_tmp4 {fn : Func} {t u v x : Tmp} (h : fn.results = #[.tmp t, .tmp u, .tmp v, .tmp x]) (tmps : Array Value) (P : Program) (w : World) :
    (results fn tmps).run P w = .ok (.tuple #[tmps.getD t undef, tmps.getD u undef, tmps.getD v undef, tmps.getD x undef]) w := by
  simp [results, h]
def cntStep (p : Nat) (st : Nat × Nat) (b : Nat) : Nat × Nat := if letN p b then (st.1 + 1, st.2) else if 48 ≤ b ∧ b ≤ 57 then (st.1, st.2 + 1) else st
def cntGo (p : Nat) (bs : List Nat) : Nat × Nat := bs.foldl (cntStep p) (0, 0)
theorem cnt_le (p : Nat) : ∀ (bs : List Nat) (st : Nat × Nat), (bs.foldl (cntStep p) st).1 + (bs.foldl (cntStep p) st).2 ≤ st.1 + st.2 + bs.length
  | [], st => by simp
  | b :: bs, st => by
    have h := cnt_le p bs (cntStep p st b)
    have h2 : (cntStep p st b).1 + (cntStep p st b).2 ≤ st.1 + st.2 + 1 := by
      unfold cntStep; split
      · simp only; omega
      · split
        · simp only; omega
        · omega
    rw [List.foldl_cons, List.length_cons]
    omega
theorem cnt_take (p : Nat) (s : ByteArray) {k : Nat} (hk : k < s.size) : cntGo p ((sb s).take (k + 1)) = cntStep p (cntGo p ((sb s).take k)) (s[k].toNat) := by
  have hl : k < (sb s).length := by rw [sb_len]; exact hk
  rw [List.take_succ_eq_append_getElem hl]
  unfold cntGo
  rw [List.foldl_append]
  simp [sb]; rfl
def cntA (s : ByteArray) (p : Int) : Int := if wrongN p 0 [s] = 0 then (cntGo p.toNat (sb s)).1 else 0
def cntD (s : ByteArray) (p : Int) : Int := if wrongN p 0 [s] = 0 then (cntGo p.toNat (sb s)).2 else 0
def cntO (s : ByteArray) (p : Int) : Int := if wrongN p 0 [s] = 0 then (s.size : Int) - (cntGo p.toNat (sb s)).1 - (cntGo p.toNat (sb s)).2 else 0
def NRes (w : World) (a d o n : Int) (e : Ending) (w' : World) : Prop := e = .returned (.tuple #[.int .i64 a, .int .i64 d, .int .i64 o, .int .i64 n]) ∧ Below w.heap.size w w'

end Go.Proofs.YtiddnacmopfamaaDoor
