/- Arrays of numbers, held against each other. -/
import Derived.Test.YtadlimfpcfdgcaaNmG
import Derived.ChangeKeysEq
set_option linter.unusedVariables false
set_option linter.unusedSimpArgs false
namespace Go.Proofs.Ytadlimfpcfdgcaa.Nam
open Go.RowKit

def eqRun (P : Program) (d : Nat) (e : TypeId) (xs ys : Array Value) : List Nat → Sem Bool
  | [] => pure true
  | i :: l => do
    let a ← part e xs i
    let b ← part e ys i
    let r ← Op.equalIn d e a b
    if (!r) = true then pure false else eqRun P d e xs ys l

theorem run_equalIn_array {P : Program} (w : World) (d n : Nat) (T e : TypeId) (xs ys : Array Value) (hT : P.underlying T = some (.array n e)) {i : TypeInfo} (hi : P.info? e = some i) (h1 : P.cellsOf e = 1) :
    (Op.equalIn (d + 1) T (.agg xs) (.agg ys)).run P w = (eqRun P d e xs ys (List.range' 0 n)).run P w := by
  simp only [Op.equalIn, Sem.run_bind, run_underlying hT, Result.andThen_ok, run_sizeOf w hi, h1, Nat.mul_one]
  rw [Std.Legacy.Range.forIn_eq_forIn_range']
  simp only [Std.Legacy.Range.size, Nat.sub_zero, Nat.add_sub_cancel, Nat.div_one]
  clear hT
  generalize List.range' 0 n = l
  induction l generalizing w with
  | nil => simp [eqRun]
  | cons j l ih =>
    simp only [List.forIn_cons, eqRun, Sem.run_bind, Sem.run_ite]
    generalize (part e xs j).run P w = r1
    cases r1 with
    | ok a w1 =>
      simp only [Result.andThen_ok]
      generalize (part e ys j).run P w1 = r2
      cases r2 with
      | ok b w2 =>
        simp only [Result.andThen_ok]
        generalize (Op.equalIn d e a b).run P w2 = r3
        cases r3 with
        | ok r w3 =>
          cases r
          · simp only [Result.andThen_ok, Bool.not_false, if_true, Sem.run_pure]
          · simp only [Result.andThen_ok, Bool.not_true, Bool.false_eq_true, if_false, Sem.run_pure]
            exact ih w3
        | halt x w3 => simp [Result.andThen]
      | halt x w2 => simp [Result.andThen]
    | halt x w1 => simp [Result.andThen]

theorem run_eqRun_int {P : Program} (w : World) (d : Nat) (e : TypeId) (k q : IntKind) (he : P.underlying e = some (.int q)) (f g : Nat → Int) (xs ys : Array Value) :
    ∀ l : List Nat, (∀ i ∈ l, xs[i]? = some (.int k (f i)) ∧ ys[i]? = some (.int k (g i))) → (eqRun P (d + 1) e xs ys l).run P w = .ok (l.all fun i => f i == g i) w
  | [], _ => by simp [eqRun]
  | i :: l, h => by
    have hp : P.plainKey e = true := by simp [Program.plainKey, he]
    obtain ⟨hx, hy⟩ := h i (by simp)
    simp only [eqRun, Sem.run_bind, run_part_plain w hp hx, run_part_plain w hp hy, Result.andThen_ok, run_equalIn_int w d e k q (f i) (g i) he, Sem.run_ite]
    rw [run_eqRun_int w d e k q he f g xs ys l fun j hj => h j (by simp [hj])]
    cases hfg : f i == g i <;> simp [hfg]

/-- Arrays of n numbers are the same just if all are. -/
theorem run_equal_ints {P : Program} (w : World) (d n : Nat) (T e : TypeId) (k q : IntKind) (f g : Nat → Int) (xs ys : Array Value) (hT : P.underlying T = some (.array n e)) (he : P.underlying e = some (.int q)) (h1 : P.cellsOf e = 1)
    (hx : ∀ i, i < n → xs[i]? = some (.int k (f i)) ∧ ys[i]? = some (.int k (g i))) :
    (Op.equalIn (d + 2) T (.agg xs) (.agg ys)).run P w = .ok ((List.range n).all fun i => f i == g i) w := by
  obtain ⟨i, hi⟩ := info_of_underlying he
  rw [run_equalIn_array w (d + 1) n T e xs ys hT hi h1, run_eqRun_int w d e k q he f g xs ys _ (fun i hi => hx i (by simpa [List.mem_range'] using hi)), List.range_eq_range']

theorem cellsU8 : Try.prog.cellsOf 5 = 1 := by kernel_rfl
def sameB (f d : Nat → Nat) : Bool := (List.range 20).all fun i => f i == d i
theorem run_equal_digA (w : World) (f g : Nat → Nat) : (Op.equalIn 10000 53 (.agg (digA f 20)) (.agg (digA g 20))).run Try.prog w = .ok (sameB f g) w := by
  unfold sameB
  rw [run_equal_ints w 9998 20 53 5 .u8 .u8 (fun i => (f i : Int)) (fun i => (g i : Int)) _ _ Try.underlying53 Try.underlying5 cellsU8 fun i hi => ⟨digA_get _ _ _ hi, digA_get _ _ _ hi⟩]
  congr 2
  funext i
  rw [Bool.eq_iff_iff]
  simp
  omega
end Go.Proofs.Ytadlimfpcfdgcaa.Nam
