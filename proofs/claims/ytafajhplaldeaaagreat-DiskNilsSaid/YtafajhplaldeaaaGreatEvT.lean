/- Plain helpers of the evaluator: a table by numbers, numbers that are forced. -/
import GoSem.Step
set_option linter.unusedVariables false
namespace Go.Ev
open Go

inductive D8 where
  | d0 | d1 | d2 | d3 | d4 | d5 | d6 | d7

/-- A table: eight branches at each digit of the number. -/
inductive T (α : Type) where
  | e
  | n (v : Option α) (c0 c1 c2 c3 c4 c5 c6 c7 : T α)

def D8.nat : D8 → Nat
  | .d0 => 0 | .d1 => 1 | .d2 => 2 | .d3 => 3 | .d4 => 4 | .d5 => 5 | .d6 => 6 | .d7 => 7

noncomputable def d8 (n : Nat) : D8 :=
  @Nat.rec (fun _ => D8) .d0 (fun n _ => @Nat.rec (fun _ => D8) .d1 (fun n _ => @Nat.rec (fun _ => D8) .d2 (fun n _ => @Nat.rec (fun _ => D8) .d3 (fun n _ => @Nat.rec (fun _ => D8) .d4
    (fun n _ => @Nat.rec (fun _ => D8) .d5 (fun n _ => @Nat.rec (fun _ => D8) .d6 (fun n _ => .d7) n) n) n) n) n) n) n

theorem d8_nat (n : Nat) (h : n < 8) : (d8 n).nat = n := by
  have : n = 0 ∨ n = 1 ∨ n = 2 ∨ n = 3 ∨ n = 4 ∨ n = 5 ∨ n = 6 ∨ n = 7 := by omega
  rcases this with rfl | rfl | rfl | rfl | rfl | rfl | rfl | rfl <;> rfl

noncomputable def digs (f : Nat) : Nat → List D8 :=
  @Nat.rec (fun _ => Nat → List D8) (fun _ => []) (fun _ ih k => @Nat.rec (fun _ => List D8) [] (fun k _ => d8 (Nat.mod k 8) :: ih (Nat.div k 8)) k) f

noncomputable def key (n : Nat) : List D8 := digs (Nat.succ n) n

def valD : List D8 → Nat
  | [] => 0
  | d :: l => 1 + d.nat + 8 * valD l

theorem valD_digs : ∀ (f k : Nat), k < f → valD (digs f k) = k
  | 0, k, h => by omega
  | f + 1, 0, _ => rfl
  | f + 1, k + 1, h => by
    show 1 + (d8 (Nat.mod k 8)).nat + 8 * valD (digs f (Nat.div k 8)) = k + 1
    have h1 : (d8 (Nat.mod k 8)).nat = k % 8 := d8_nat _ (Nat.mod_lt _ (by omega))
    have h2 : valD (digs f (Nat.div k 8)) = k / 8 := valD_digs f _ (by show k / 8 < f; omega)
    rw [h1, h2]; omega

theorem key_inj {n m : Nat} (h : key n = key m) : n = m := by
  have := congrArg valD h
  unfold key at this
  rwa [valD_digs _ _ (by omega), valD_digs _ _ (by omega)] at this

/-- a closure: what has been decided is decided once -/
structure K (α : Type) where
  f : α

noncomputable def getter {α : Type} (p : List D8) : K (T α → Option α) :=
  @List.rec D8 (fun _ => K (T α → Option α)) ⟨fun t => @T.rec α (fun _ => Option α) none (fun v _ _ _ _ _ _ _ _ _ _ _ _ _ _ _ _ => v) t⟩
    (fun d _ ih => @D8.rec (fun _ => K (T α → Option α))
      ⟨fun t => @T.rec α (fun _ => Option α) none (fun _ c0 c1 c2 c3 c4 c5 c6 c7 _ _ _ _ _ _ _ _ => ih.f c0) t⟩
      ⟨fun t => @T.rec α (fun _ => Option α) none (fun _ c0 c1 c2 c3 c4 c5 c6 c7 _ _ _ _ _ _ _ _ => ih.f c1) t⟩
      ⟨fun t => @T.rec α (fun _ => Option α) none (fun _ c0 c1 c2 c3 c4 c5 c6 c7 _ _ _ _ _ _ _ _ => ih.f c2) t⟩
      ⟨fun t => @T.rec α (fun _ => Option α) none (fun _ c0 c1 c2 c3 c4 c5 c6 c7 _ _ _ _ _ _ _ _ => ih.f c3) t⟩
      ⟨fun t => @T.rec α (fun _ => Option α) none (fun _ c0 c1 c2 c3 c4 c5 c6 c7 _ _ _ _ _ _ _ _ => ih.f c4) t⟩
      ⟨fun t => @T.rec α (fun _ => Option α) none (fun _ c0 c1 c2 c3 c4 c5 c6 c7 _ _ _ _ _ _ _ _ => ih.f c5) t⟩
      ⟨fun t => @T.rec α (fun _ => Option α) none (fun _ c0 c1 c2 c3 c4 c5 c6 c7 _ _ _ _ _ _ _ _ => ih.f c6) t⟩
      ⟨fun t => @T.rec α (fun _ => Option α) none (fun _ c0 c1 c2 c3 c4 c5 c6 c7 _ _ _ _ _ _ _ _ => ih.f c7) t⟩ d) p

noncomputable def newer {α β : Type} (p : List D8) : K (α → (T α → β) → β) :=
  @List.rec D8 (fun _ => K (α → (T α → β) → β)) ⟨fun x c => c (.n (some x) .e .e .e .e .e .e .e .e)⟩
    (fun d _ ih => @D8.rec (fun _ => K (α → (T α → β) → β))
      ⟨fun x c => ih.f x fun t => c (T.n none t .e .e .e .e .e .e .e)⟩
      ⟨fun x c => ih.f x fun t => c (T.n none .e t .e .e .e .e .e .e)⟩
      ⟨fun x c => ih.f x fun t => c (T.n none .e .e t .e .e .e .e .e)⟩
      ⟨fun x c => ih.f x fun t => c (T.n none .e .e .e t .e .e .e .e)⟩
      ⟨fun x c => ih.f x fun t => c (T.n none .e .e .e .e t .e .e .e)⟩
      ⟨fun x c => ih.f x fun t => c (T.n none .e .e .e .e .e t .e .e)⟩
      ⟨fun x c => ih.f x fun t => c (T.n none .e .e .e .e .e .e t .e)⟩
      ⟨fun x c => ih.f x fun t => c (T.n none .e .e .e .e .e .e .e t)⟩ d) p

noncomputable def setter {α β : Type} (p : List D8) : K (α → T α → (T α → β) → β) :=
  @List.rec D8 (fun _ => K (α → T α → (T α → β) → β)) ⟨fun x t c => @T.rec α (fun _ => α → (T α → β) → β) (fun x c => c (.n (some x) .e .e .e .e .e .e .e .e)) (fun _ c0 c1 c2 c3 c4 c5 c6 c7 _ _ _ _ _ _ _ _ x c => c (.n (some x) c0 c1 c2 c3 c4 c5 c6 c7)) t x c⟩
    (fun d p ih => @D8.rec (fun _ => K (α → T α → (T α → β) → β))
      ⟨fun x t c => @T.rec α (fun _ => α → (T α → β) → β) (fun x c => (newer p).f x fun t => c (T.n none t .e .e .e .e .e .e .e)) (fun v c0 c1 c2 c3 c4 c5 c6 c7 _ _ _ _ _ _ _ _ x c => ih.f x c0 fun t => c (T.n v t c1 c2 c3 c4 c5 c6 c7)) t x c⟩
      ⟨fun x t c => @T.rec α (fun _ => α → (T α → β) → β) (fun x c => (newer p).f x fun t => c (T.n none .e t .e .e .e .e .e .e)) (fun v c0 c1 c2 c3 c4 c5 c6 c7 _ _ _ _ _ _ _ _ x c => ih.f x c1 fun t => c (T.n v c0 t c2 c3 c4 c5 c6 c7)) t x c⟩
      ⟨fun x t c => @T.rec α (fun _ => α → (T α → β) → β) (fun x c => (newer p).f x fun t => c (T.n none .e .e t .e .e .e .e .e)) (fun v c0 c1 c2 c3 c4 c5 c6 c7 _ _ _ _ _ _ _ _ x c => ih.f x c2 fun t => c (T.n v c0 c1 t c3 c4 c5 c6 c7)) t x c⟩
      ⟨fun x t c => @T.rec α (fun _ => α → (T α → β) → β) (fun x c => (newer p).f x fun t => c (T.n none .e .e .e t .e .e .e .e)) (fun v c0 c1 c2 c3 c4 c5 c6 c7 _ _ _ _ _ _ _ _ x c => ih.f x c3 fun t => c (T.n v c0 c1 c2 t c4 c5 c6 c7)) t x c⟩
      ⟨fun x t c => @T.rec α (fun _ => α → (T α → β) → β) (fun x c => (newer p).f x fun t => c (T.n none .e .e .e .e t .e .e .e)) (fun v c0 c1 c2 c3 c4 c5 c6 c7 _ _ _ _ _ _ _ _ x c => ih.f x c4 fun t => c (T.n v c0 c1 c2 c3 t c5 c6 c7)) t x c⟩
      ⟨fun x t c => @T.rec α (fun _ => α → (T α → β) → β) (fun x c => (newer p).f x fun t => c (T.n none .e .e .e .e .e t .e .e)) (fun v c0 c1 c2 c3 c4 c5 c6 c7 _ _ _ _ _ _ _ _ x c => ih.f x c5 fun t => c (T.n v c0 c1 c2 c3 c4 t c6 c7)) t x c⟩
      ⟨fun x t c => @T.rec α (fun _ => α → (T α → β) → β) (fun x c => (newer p).f x fun t => c (T.n none .e .e .e .e .e .e t .e)) (fun v c0 c1 c2 c3 c4 c5 c6 c7 _ _ _ _ _ _ _ _ x c => ih.f x c6 fun t => c (T.n v c0 c1 c2 c3 c4 c5 t c7)) t x c⟩
      ⟨fun x t c => @T.rec α (fun _ => α → (T α → β) → β) (fun x c => (newer p).f x fun t => c (T.n none .e .e .e .e .e .e .e t)) (fun v c0 c1 c2 c3 c4 c5 c6 c7 _ _ _ _ _ _ _ _ x c => ih.f x c7 fun t => c (T.n v c0 c1 c2 c3 c4 c5 c6 t)) t x c⟩ d) p

theorem newer_eq {α β : Type} : ∀ (p : List D8) (x : α) (c : T α → β), (newer p).f x c = c ((newer p).f x id)
  | [], x, c => rfl
  | .d0 :: p, x, c => (newer_eq p x fun t => c (T.n none t .e .e .e .e .e .e .e)).trans (congrArg c (newer_eq p x fun t => (T.n none t .e .e .e .e .e .e .e)).symm)
  | .d1 :: p, x, c => (newer_eq p x fun t => c (T.n none .e t .e .e .e .e .e .e)).trans (congrArg c (newer_eq p x fun t => (T.n none .e t .e .e .e .e .e .e)).symm)
  | .d2 :: p, x, c => (newer_eq p x fun t => c (T.n none .e .e t .e .e .e .e .e)).trans (congrArg c (newer_eq p x fun t => (T.n none .e .e t .e .e .e .e .e)).symm)
  | .d3 :: p, x, c => (newer_eq p x fun t => c (T.n none .e .e .e t .e .e .e .e)).trans (congrArg c (newer_eq p x fun t => (T.n none .e .e .e t .e .e .e .e)).symm)
  | .d4 :: p, x, c => (newer_eq p x fun t => c (T.n none .e .e .e .e t .e .e .e)).trans (congrArg c (newer_eq p x fun t => (T.n none .e .e .e .e t .e .e .e)).symm)
  | .d5 :: p, x, c => (newer_eq p x fun t => c (T.n none .e .e .e .e .e t .e .e)).trans (congrArg c (newer_eq p x fun t => (T.n none .e .e .e .e .e t .e .e)).symm)
  | .d6 :: p, x, c => (newer_eq p x fun t => c (T.n none .e .e .e .e .e .e t .e)).trans (congrArg c (newer_eq p x fun t => (T.n none .e .e .e .e .e .e t .e)).symm)
  | .d7 :: p, x, c => (newer_eq p x fun t => c (T.n none .e .e .e .e .e .e .e t)).trans (congrArg c (newer_eq p x fun t => (T.n none .e .e .e .e .e .e .e t)).symm)

theorem setter_eq {α β : Type} : ∀ (p : List D8) (x : α) (t : T α) (c : T α → β), (setter p).f x t c = c ((setter p).f x t id)
  | [], x, .e, c => rfl
  | [], x, .n _ _ _ _ _ _ _ _ _, c => rfl
  | .d0 :: p, x, .e, c => (newer_eq p x fun t => c (T.n none t .e .e .e .e .e .e .e)).trans (congrArg c (newer_eq p x fun t => (T.n none t .e .e .e .e .e .e .e)).symm)
  | .d1 :: p, x, .e, c => (newer_eq p x fun t => c (T.n none .e t .e .e .e .e .e .e)).trans (congrArg c (newer_eq p x fun t => (T.n none .e t .e .e .e .e .e .e)).symm)
  | .d2 :: p, x, .e, c => (newer_eq p x fun t => c (T.n none .e .e t .e .e .e .e .e)).trans (congrArg c (newer_eq p x fun t => (T.n none .e .e t .e .e .e .e .e)).symm)
  | .d3 :: p, x, .e, c => (newer_eq p x fun t => c (T.n none .e .e .e t .e .e .e .e)).trans (congrArg c (newer_eq p x fun t => (T.n none .e .e .e t .e .e .e .e)).symm)
  | .d4 :: p, x, .e, c => (newer_eq p x fun t => c (T.n none .e .e .e .e t .e .e .e)).trans (congrArg c (newer_eq p x fun t => (T.n none .e .e .e .e t .e .e .e)).symm)
  | .d5 :: p, x, .e, c => (newer_eq p x fun t => c (T.n none .e .e .e .e .e t .e .e)).trans (congrArg c (newer_eq p x fun t => (T.n none .e .e .e .e .e t .e .e)).symm)
  | .d6 :: p, x, .e, c => (newer_eq p x fun t => c (T.n none .e .e .e .e .e .e t .e)).trans (congrArg c (newer_eq p x fun t => (T.n none .e .e .e .e .e .e t .e)).symm)
  | .d7 :: p, x, .e, c => (newer_eq p x fun t => c (T.n none .e .e .e .e .e .e .e t)).trans (congrArg c (newer_eq p x fun t => (T.n none .e .e .e .e .e .e .e t)).symm)
  | .d0 :: p, x, .n v c0 c1 c2 c3 c4 c5 c6 c7, c => (setter_eq p x c0 fun t => c (T.n v t c1 c2 c3 c4 c5 c6 c7)).trans (congrArg c (setter_eq p x c0 fun t => (T.n v t c1 c2 c3 c4 c5 c6 c7)).symm)
  | .d1 :: p, x, .n v c0 c1 c2 c3 c4 c5 c6 c7, c => (setter_eq p x c1 fun t => c (T.n v c0 t c2 c3 c4 c5 c6 c7)).trans (congrArg c (setter_eq p x c1 fun t => (T.n v c0 t c2 c3 c4 c5 c6 c7)).symm)
  | .d2 :: p, x, .n v c0 c1 c2 c3 c4 c5 c6 c7, c => (setter_eq p x c2 fun t => c (T.n v c0 c1 t c3 c4 c5 c6 c7)).trans (congrArg c (setter_eq p x c2 fun t => (T.n v c0 c1 t c3 c4 c5 c6 c7)).symm)
  | .d3 :: p, x, .n v c0 c1 c2 c3 c4 c5 c6 c7, c => (setter_eq p x c3 fun t => c (T.n v c0 c1 c2 t c4 c5 c6 c7)).trans (congrArg c (setter_eq p x c3 fun t => (T.n v c0 c1 c2 t c4 c5 c6 c7)).symm)
  | .d4 :: p, x, .n v c0 c1 c2 c3 c4 c5 c6 c7, c => (setter_eq p x c4 fun t => c (T.n v c0 c1 c2 c3 t c5 c6 c7)).trans (congrArg c (setter_eq p x c4 fun t => (T.n v c0 c1 c2 c3 t c5 c6 c7)).symm)
  | .d5 :: p, x, .n v c0 c1 c2 c3 c4 c5 c6 c7, c => (setter_eq p x c5 fun t => c (T.n v c0 c1 c2 c3 c4 t c6 c7)).trans (congrArg c (setter_eq p x c5 fun t => (T.n v c0 c1 c2 c3 c4 t c6 c7)).symm)
  | .d6 :: p, x, .n v c0 c1 c2 c3 c4 c5 c6 c7, c => (setter_eq p x c6 fun t => c (T.n v c0 c1 c2 c3 c4 c5 t c7)).trans (congrArg c (setter_eq p x c6 fun t => (T.n v c0 c1 c2 c3 c4 c5 t c7)).symm)
  | .d7 :: p, x, .n v c0 c1 c2 c3 c4 c5 c6 c7, c => (setter_eq p x c7 fun t => c (T.n v c0 c1 c2 c3 c4 c5 c6 t)).trans (congrArg c (setter_eq p x c7 fun t => (T.n v c0 c1 c2 c3 c4 c5 c6 t)).symm)

theorem getter_e {α : Type} : ∀ p : List D8, (getter p).f (T.e : T α) = none
  | [] => rfl
  | .d0 :: p => rfl
  | .d1 :: p => rfl
  | .d2 :: p => rfl
  | .d3 :: p => rfl
  | .d4 :: p => rfl
  | .d5 :: p => rfl
  | .d6 :: p => rfl
  | .d7 :: p => rfl

theorem getter_newer {α : Type} [DecidableEq D8] : ∀ (p q : List D8) (x : α), (getter q).f ((newer p).f x id) = if p = q then some x else none
  | [], [], x => by simp; rfl
  | [], d :: q, x => by simp only [reduceCtorEq, if_false]; cases d <;> exact getter_e q
  | .d0 :: p, q, x => by
    have ih := fun q => getter_newer p q x
    refine Eq.trans (congrArg (getter q).f (newer_eq p x (fun t => (T.n none t .e .e .e .e .e .e .e)))) ?_
    cases q with
    | nil => simp only [reduceCtorEq, if_false]; rfl
    | cons d' q => cases d' <;> first | (simp only [List.cons.injEq, true_and]; exact ih q) | (simp only [List.cons.injEq, reduceCtorEq, false_and, if_false]; exact getter_e q)
  | .d1 :: p, q, x => by
    have ih := fun q => getter_newer p q x
    refine Eq.trans (congrArg (getter q).f (newer_eq p x (fun t => (T.n none .e t .e .e .e .e .e .e)))) ?_
    cases q with
    | nil => simp only [reduceCtorEq, if_false]; rfl
    | cons d' q => cases d' <;> first | (simp only [List.cons.injEq, true_and]; exact ih q) | (simp only [List.cons.injEq, reduceCtorEq, false_and, if_false]; exact getter_e q)
  | .d2 :: p, q, x => by
    have ih := fun q => getter_newer p q x
    refine Eq.trans (congrArg (getter q).f (newer_eq p x (fun t => (T.n none .e .e t .e .e .e .e .e)))) ?_
    cases q with
    | nil => simp only [reduceCtorEq, if_false]; rfl
    | cons d' q => cases d' <;> first | (simp only [List.cons.injEq, true_and]; exact ih q) | (simp only [List.cons.injEq, reduceCtorEq, false_and, if_false]; exact getter_e q)
  | .d3 :: p, q, x => by
    have ih := fun q => getter_newer p q x
    refine Eq.trans (congrArg (getter q).f (newer_eq p x (fun t => (T.n none .e .e .e t .e .e .e .e)))) ?_
    cases q with
    | nil => simp only [reduceCtorEq, if_false]; rfl
    | cons d' q => cases d' <;> first | (simp only [List.cons.injEq, true_and]; exact ih q) | (simp only [List.cons.injEq, reduceCtorEq, false_and, if_false]; exact getter_e q)
  | .d4 :: p, q, x => by
    have ih := fun q => getter_newer p q x
    refine Eq.trans (congrArg (getter q).f (newer_eq p x (fun t => (T.n none .e .e .e .e t .e .e .e)))) ?_
    cases q with
    | nil => simp only [reduceCtorEq, if_false]; rfl
    | cons d' q => cases d' <;> first | (simp only [List.cons.injEq, true_and]; exact ih q) | (simp only [List.cons.injEq, reduceCtorEq, false_and, if_false]; exact getter_e q)
  | .d5 :: p, q, x => by
    have ih := fun q => getter_newer p q x
    refine Eq.trans (congrArg (getter q).f (newer_eq p x (fun t => (T.n none .e .e .e .e .e t .e .e)))) ?_
    cases q with
    | nil => simp only [reduceCtorEq, if_false]; rfl
    | cons d' q => cases d' <;> first | (simp only [List.cons.injEq, true_and]; exact ih q) | (simp only [List.cons.injEq, reduceCtorEq, false_and, if_false]; exact getter_e q)
  | .d6 :: p, q, x => by
    have ih := fun q => getter_newer p q x
    refine Eq.trans (congrArg (getter q).f (newer_eq p x (fun t => (T.n none .e .e .e .e .e .e t .e)))) ?_
    cases q with
    | nil => simp only [reduceCtorEq, if_false]; rfl
    | cons d' q => cases d' <;> first | (simp only [List.cons.injEq, true_and]; exact ih q) | (simp only [List.cons.injEq, reduceCtorEq, false_and, if_false]; exact getter_e q)
  | .d7 :: p, q, x => by
    have ih := fun q => getter_newer p q x
    refine Eq.trans (congrArg (getter q).f (newer_eq p x (fun t => (T.n none .e .e .e .e .e .e .e t)))) ?_
    cases q with
    | nil => simp only [reduceCtorEq, if_false]; rfl
    | cons d' q => cases d' <;> first | (simp only [List.cons.injEq, true_and]; exact ih q) | (simp only [List.cons.injEq, reduceCtorEq, false_and, if_false]; exact getter_e q)

theorem getter_setter {α : Type} [DecidableEq D8] : ∀ (p q : List D8) (x : α) (t : T α), (getter q).f ((setter p).f x t id) = if p = q then some x else (getter q).f t
  | [], [], x, .e => by simp; rfl
  | [], [], x, .n _ _ _ _ _ _ _ _ _ => by simp; rfl
  | [], d :: q, x, .e => by simp only [reduceCtorEq, if_false]; rw [getter_e]; cases d <;> exact getter_e q
  | [], d :: q, x, .n _ _ _ _ _ _ _ _ _ => by simp only [reduceCtorEq, if_false]; cases d <;> rfl
  | .d0 :: p, q, x, .e => by rw [getter_e]; exact getter_newer (.d0 :: p) q x
  | .d1 :: p, q, x, .e => by rw [getter_e]; exact getter_newer (.d1 :: p) q x
  | .d2 :: p, q, x, .e => by rw [getter_e]; exact getter_newer (.d2 :: p) q x
  | .d3 :: p, q, x, .e => by rw [getter_e]; exact getter_newer (.d3 :: p) q x
  | .d4 :: p, q, x, .e => by rw [getter_e]; exact getter_newer (.d4 :: p) q x
  | .d5 :: p, q, x, .e => by rw [getter_e]; exact getter_newer (.d5 :: p) q x
  | .d6 :: p, q, x, .e => by rw [getter_e]; exact getter_newer (.d6 :: p) q x
  | .d7 :: p, q, x, .e => by rw [getter_e]; exact getter_newer (.d7 :: p) q x
  | .d0 :: p, q, x, .n v c0 c1 c2 c3 c4 c5 c6 c7 => by
    have ih := fun q => getter_setter p q x c0
    refine Eq.trans (congrArg (getter q).f (setter_eq p x c0 (fun t => (T.n v t c1 c2 c3 c4 c5 c6 c7)))) ?_
    cases q with
    | nil => simp only [reduceCtorEq, if_false]; rfl
    | cons d' q => cases d' <;> first | (simp only [List.cons.injEq, true_and]; exact ih q) | (simp only [List.cons.injEq, reduceCtorEq, false_and, if_false]; rfl)
  | .d1 :: p, q, x, .n v c0 c1 c2 c3 c4 c5 c6 c7 => by
    have ih := fun q => getter_setter p q x c1
    refine Eq.trans (congrArg (getter q).f (setter_eq p x c1 (fun t => (T.n v c0 t c2 c3 c4 c5 c6 c7)))) ?_
    cases q with
    | nil => simp only [reduceCtorEq, if_false]; rfl
    | cons d' q => cases d' <;> first | (simp only [List.cons.injEq, true_and]; exact ih q) | (simp only [List.cons.injEq, reduceCtorEq, false_and, if_false]; rfl)
  | .d2 :: p, q, x, .n v c0 c1 c2 c3 c4 c5 c6 c7 => by
    have ih := fun q => getter_setter p q x c2
    refine Eq.trans (congrArg (getter q).f (setter_eq p x c2 (fun t => (T.n v c0 c1 t c3 c4 c5 c6 c7)))) ?_
    cases q with
    | nil => simp only [reduceCtorEq, if_false]; rfl
    | cons d' q => cases d' <;> first | (simp only [List.cons.injEq, true_and]; exact ih q) | (simp only [List.cons.injEq, reduceCtorEq, false_and, if_false]; rfl)
  | .d3 :: p, q, x, .n v c0 c1 c2 c3 c4 c5 c6 c7 => by
    have ih := fun q => getter_setter p q x c3
    refine Eq.trans (congrArg (getter q).f (setter_eq p x c3 (fun t => (T.n v c0 c1 c2 t c4 c5 c6 c7)))) ?_
    cases q with
    | nil => simp only [reduceCtorEq, if_false]; rfl
    | cons d' q => cases d' <;> first | (simp only [List.cons.injEq, true_and]; exact ih q) | (simp only [List.cons.injEq, reduceCtorEq, false_and, if_false]; rfl)
  | .d4 :: p, q, x, .n v c0 c1 c2 c3 c4 c5 c6 c7 => by
    have ih := fun q => getter_setter p q x c4
    refine Eq.trans (congrArg (getter q).f (setter_eq p x c4 (fun t => (T.n v c0 c1 c2 c3 t c5 c6 c7)))) ?_
    cases q with
    | nil => simp only [reduceCtorEq, if_false]; rfl
    | cons d' q => cases d' <;> first | (simp only [List.cons.injEq, true_and]; exact ih q) | (simp only [List.cons.injEq, reduceCtorEq, false_and, if_false]; rfl)
  | .d5 :: p, q, x, .n v c0 c1 c2 c3 c4 c5 c6 c7 => by
    have ih := fun q => getter_setter p q x c5
    refine Eq.trans (congrArg (getter q).f (setter_eq p x c5 (fun t => (T.n v c0 c1 c2 c3 c4 t c6 c7)))) ?_
    cases q with
    | nil => simp only [reduceCtorEq, if_false]; rfl
    | cons d' q => cases d' <;> first | (simp only [List.cons.injEq, true_and]; exact ih q) | (simp only [List.cons.injEq, reduceCtorEq, false_and, if_false]; rfl)
  | .d6 :: p, q, x, .n v c0 c1 c2 c3 c4 c5 c6 c7 => by
    have ih := fun q => getter_setter p q x c6
    refine Eq.trans (congrArg (getter q).f (setter_eq p x c6 (fun t => (T.n v c0 c1 c2 c3 c4 c5 t c7)))) ?_
    cases q with
    | nil => simp only [reduceCtorEq, if_false]; rfl
    | cons d' q => cases d' <;> first | (simp only [List.cons.injEq, true_and]; exact ih q) | (simp only [List.cons.injEq, reduceCtorEq, false_and, if_false]; rfl)
  | .d7 :: p, q, x, .n v c0 c1 c2 c3 c4 c5 c6 c7 => by
    have ih := fun q => getter_setter p q x c7
    refine Eq.trans (congrArg (getter q).f (setter_eq p x c7 (fun t => (T.n v c0 c1 c2 c3 c4 c5 c6 t)))) ?_
    cases q with
    | nil => simp only [reduceCtorEq, if_false]; rfl
    | cons d' q => cases d' <;> first | (simp only [List.cons.injEq, true_and]; exact ih q) | (simp only [List.cons.injEq, reduceCtorEq, false_and, if_false]; rfl)

noncomputable def T.get {α : Type} (t : T α) (n : Nat) : Option α := (getter (key n)).f t
noncomputable def T.set {α : Type} (t : T α) (n : Nat) (x : α) : T α := (setter (key n)).f x t id
noncomputable def T.setK {α β : Type} (t : T α) (n : Nat) (x : α) (c : T α → β) : β := (setter (key n)).f x t c

theorem T.setK_eq {α β : Type} (t : T α) (n : Nat) (x : α) (c : T α → β) : T.setK t n x c = c (t.set n x) := setter_eq (key n) x t c

theorem T.get_set {α : Type} (t : T α) (n m : Nat) (x : α) : (t.set n x).get m = if n = m then some x else t.get m := by
  have dec : DecidableEq D8 := fun a b => by cases a <;> cases b <;> first | exact isTrue rfl | exact isFalse (by intro h; cases h)
  unfold T.get T.set
  rw [getter_setter]
  by_cases h : n = m
  · subst h; simp
  · rw [if_neg h, if_neg (fun e => h (key_inj e))]

theorem T.get_e {α : Type} (n : Nat) : (T.e : T α).get n = none := getter_e _

/-- A number that is forced before it is used. -/
noncomputable def natK {β : Type} (n : Nat) (f : Nat → β) : β := @Nat.rec (fun _ => β) (f 0) (fun m _ => f (Nat.succ m)) n
theorem natK_eq {β : Type} (n : Nat) (f : Nat → β) : natK n f = f n := by cases n <;> rfl

noncomputable def intK {β : Type} (n : Int) (f : Int → β) : β :=
  @Int.rec (fun _ => β) (fun m => natK m fun m => f (.ofNat m)) (fun m => natK m fun m => f (.negSucc m)) n
theorem intK_eq {β : Type} (n : Int) (f : Int → β) : intK n f = f n := by
  cases n with
  | ofNat m => exact natK_eq m (fun m => f (.ofNat m))
  | negSucc m => exact natK_eq m (fun m => f (.negSucc m))

/-! ### int's arithmetic by numbers that the kernel reckons -/
def mdK : IntKind → Nat
  | .i8 | .u8 => 256
  | .i16 | .u16 => 65536
  | .i32 | .u32 => 4294967296
  | .i64 | .u64 => 18446744073709551616
def hfK : IntKind → Nat
  | .i8 => 128 | .i16 => 32768 | .i32 => 2147483648 | .i64 => 9223372036854775808
  | .u8 => 256 | .u16 => 65536 | .u32 => 4294967296 | .u64 => 18446744073709551616

def backK (k : IntKind) (r : Nat) : Int := match Nat.ble (hfK k) r with
  | true => .negSucc (Nat.sub (Nat.sub (mdK k) 1) r)
  | false => .ofNat r

def wrapF (k : IntKind) : Int → Int
  | .ofNat m => backK k (Nat.mod m (mdK k))
  | .negSucc m => backK k (Nat.sub (Nat.sub (mdK k) 1) (Nat.mod m (mdK k)))

theorem emod_negSucc (m d : Nat) (hd : 0 < d) : (Int.negSucc m) % (d : Int) = ((d - 1 - m % d : Nat) : Int) := by
  have h : m % d < d := Nat.mod_lt _ hd
  have e : Int.negSucc m = ((d - 1 - m % d : Nat) : Int) + (d : Int) * (-((m / d : Nat) : Int) - 1) := by
    have h2 := Nat.div_add_mod m d
    have h3 : ((d - 1 - m % d : Nat) : Int) = (d : Int) - 1 - ((m % d : Nat) : Int) := by omega
    rw [h3, Int.negSucc_eq, Int.mul_sub, Int.mul_neg, Int.mul_one, ← Int.natCast_mul]
    have : (m : Int) = ((d * (m / d) : Nat) : Int) + ((m % d : Nat) : Int) := by omega
    omega
  rw [e, Int.add_mul_emod_self_left]
  exact Int.emod_eq_of_lt (by omega) (by omega)

theorem backK_eq (k : IntKind) (r : Nat) (hr : r < mdK k) : backK k r = (if k.signed && decide ((r : Int) ≥ (2 : Int) ^ (k.bits - 1)) then (r : Int) - ((mdK k : Nat) : Int) else (r : Int)) := by
  have key : ∀ (s : Bool) (h m : Nat), (s = false → h = m) → h ≤ m → r < m →
      (match Nat.ble h r with | true => Int.negSucc (Nat.sub (Nat.sub m 1) r) | false => Int.ofNat r) = (if s && decide ((r : Int) ≥ (h : Int)) then (r : Int) - (m : Int) else (r : Int)) := by
    intro s h m hs hm hrm
    by_cases hb : h ≤ r
    · rw [show Nat.ble h r = true from Nat.ble_eq_true_of_le hb]
      cases s with
      | false => have := hs rfl; omega
      | true =>
        simp only [Nat.sub_eq, ge_iff_le, Bool.true_and, decide_eq_true_eq]
        rw [if_pos (by omega), Int.negSucc_eq]
        omega
    · have hf : Nat.ble h r = false := by
        cases hx : Nat.ble h r with
        | false => rfl
        | true => exact absurd (Nat.le_of_ble_eq_true hx) hb
      rw [hf, if_neg (by simp; intro _; omega)]
      rfl
  have pw : ∀ (n h : Nat), 2 ^ n = h → (2 : Int) ^ n = ((h : Nat) : Int) := fun n h e => by rw [← e]; simp
  have fin : ∀ (s : Bool) (n h m : Nat), 2 ^ n = h → (match Nat.ble h r with | true => Int.negSucc (Nat.sub (Nat.sub m 1) r) | false => Int.ofNat r) = (if s && decide ((r : Int) ≥ (h : Int)) then (r : Int) - (m : Int) else (r : Int)) →
      (match Nat.ble h r with | true => Int.negSucc (Nat.sub (Nat.sub m 1) r) | false => Int.ofNat r) = (if s && decide ((r : Int) ≥ (2 : Int) ^ n) then (r : Int) - (m : Int) else (r : Int)) := fun s n h m e x => by rw [pw n h e]; exact x
  have un : ∀ (n h m : Nat), (match Nat.ble h r with | true => Int.negSucc (Nat.sub (Nat.sub m 1) r) | false => Int.ofNat r) = (if false && decide ((r : Int) ≥ (h : Int)) then (r : Int) - (m : Int) else (r : Int)) →
      (match Nat.ble h r with | true => Int.negSucc (Nat.sub (Nat.sub m 1) r) | false => Int.ofNat r) = (if false && decide ((r : Int) ≥ (2 : Int) ^ n) then (r : Int) - (m : Int) else (r : Int)) := fun n h m x => by simpa using x
  cases k
  · exact fin true 7 128 256 (by decide) (key true 128 256 (by simp) (by omega) hr)
  · exact fin true 15 32768 65536 (by decide) (key true 32768 65536 (by simp) (by omega) hr)
  · exact fin true 31 2147483648 4294967296 (by decide) (key true 2147483648 4294967296 (by simp) (by omega) hr)
  · exact fin true 63 9223372036854775808 18446744073709551616 (by decide) (key true 9223372036854775808 18446744073709551616 (by simp) (by omega) hr)
  · exact un 7 256 256 (key false 256 256 (by simp) (by omega) hr)
  · exact un 15 65536 65536 (key false 65536 65536 (by simp) (by omega) hr)
  · exact un 31 4294967296 4294967296 (key false 4294967296 4294967296 (by simp) (by omega) hr)
  · exact un 63 18446744073709551616 18446744073709551616 (key false 18446744073709551616 18446744073709551616 (by simp) (by omega) hr)

theorem wrapF_eq (k : IntKind) (n : Int) : wrapF k n = k.wrap n := by
  have hp : (2 : Int) ^ k.bits = ((mdK k : Nat) : Int) := by cases k <;> rfl
  have hd : 0 < mdK k := by cases k <;> decide
  unfold IntKind.wrap
  simp only []
  rw [hp]
  cases n with
  | ofNat m =>
    have h1 : (Int.ofNat m) % ((mdK k : Nat) : Int) = ((m % mdK k : Nat) : Int) := by simp
    rw [h1]
    exact backK_eq k _ (Nat.mod_lt _ hd)
  | negSucc m =>
    rw [emod_negSucc m _ hd]
    exact backK_eq k _ (by show mdK k - 1 - m % mdK k < mdK k; omega)

def ltI : Int → Int → Bool
  | .ofNat a, .ofNat b => Nat.blt a b
  | .ofNat _, .negSucc _ => false
  | .negSucc _, .ofNat _ => true
  | .negSucc a, .negSucc b => Nat.blt b a
theorem ltI_eq (a b : Int) : ltI a b = decide (a < b) := by
  have bl : ∀ m n : Nat, Nat.blt m n = decide (m < n) := fun m n => by
    by_cases h : m < n
    · rw [decide_eq_true h]; exact Nat.ble_eq_true_of_le h
    · rw [decide_eq_false h]; cases hx : Nat.blt m n with
      | false => rfl
      | true => exact absurd (Nat.le_of_ble_eq_true hx) h
  cases a with
  | ofNat a => cases b with
    | ofNat b => rw [ltI, bl]; exact decide_eq_decide.2 (by simp only [Int.ofNat_eq_natCast]; omega)
    | negSucc b => symm; exact decide_eq_false (by simp only [Int.ofNat_eq_natCast]; omega)
  | negSucc a => cases b with
    | ofNat b => symm; exact decide_eq_true (by simp only [Int.ofNat_eq_natCast]; omega)
    | negSucc b => rw [ltI, bl]; exact decide_eq_decide.2 (by omega)
def eqI : Int → Int → Bool
  | .ofNat a, .ofNat b => Nat.beq a b
  | .negSucc a, .negSucc b => Nat.beq a b
  | _, _ => false
theorem eqI_eq (a b : Int) : eqI a b = (a == b) := by
  have bq : ∀ m n : Nat, Nat.beq m n = decide (m = n) := fun m n => by
    by_cases h : m = n
    · rw [decide_eq_true h]; subst h; exact Nat.beq_refl m
    · rw [decide_eq_false h]; cases hx : Nat.beq m n with
      | false => rfl
      | true => exact absurd (Nat.eq_of_beq_eq_true hx) h
  have eb : ∀ x y : Int, (x == y) = decide (x = y) := fun x y => rfl
  rw [eb]
  cases a with
  | ofNat a => cases b with
    | ofNat b => rw [eqI, bq]; exact decide_eq_decide.2 (by simp only [Int.ofNat_eq_natCast]; omega)
    | negSucc b => symm; exact decide_eq_false (by simp only [Int.ofNat_eq_natCast]; omega)
  | negSucc a => cases b with
    | ofNat b => symm; exact decide_eq_false (by simp only [Int.ofNat_eq_natCast]; omega)
    | negSucc b => rw [eqI, bq]; exact decide_eq_decide.2 (by omega)

/-! ### results -/
inductive R (α : Type) where
  | ok (a : α)
  | no (why : String)

noncomputable def R.bind {α β : Type} (x : R α) (f : α → R β) : R β := @R.rec α (fun _ => R β) f (fun w => .no w) x
noncomputable def R.when {α : Type} (b : Bool) (why : String) (k : R α) : R α := @Bool.rec (fun _ => R α) (.no why) k b
noncomputable def R.of {α β : Type} (o : Option α) (why : String) (k : α → R β) : R β := @Option.rec α (fun _ => R β) (.no why) k o

theorem R.bind_ok {α β : Type} {x : R α} {f : α → R β} {b : β} : x.bind f = .ok b ↔ ∃ a, x = .ok a ∧ f a = .ok b := by
  cases x with
  | ok a => simp [R.bind]
  | no w => simp [R.bind]
theorem R.when_ok {α : Type} {b : Bool} {w : String} {k : R α} {a : α} : R.when b w k = .ok a ↔ b = true ∧ k = .ok a := by
  cases b <;> simp [R.when]
theorem R.of_ok {α β : Type} {o : Option α} {w : String} {k : α → R β} {b : β} : R.of o w k = .ok b ↔ ∃ a, o = some a ∧ k a = .ok b := by
  cases o <;> simp [R.of]

end Go.Ev
