/- numbers: Do; the reference's. -/
import Derived.Test.YtbmmoclaijoofaaGreatDoorNumC
import Derived.Laws.NewFold
set_option linter.unusedVariables false
set_option linter.unusedSimpArgs false
namespace Go.Proofs.YtbmmoclaijoofaaGreatDoor
open Go.RowKit Go.BigFrame
open Num (nanB sg rg sv key eqF ltF cmpI wd infR)

namespace Num
/-- The bits that a drawn nan has. -/
def nanDraw (t : Nat) : Nat := (t % 2) * 2 ^ 63 + 9218868437227405312 + 1 + (t / 2) % (2 ^ 52 - 1)
theorem nanDraw_is (t : Nat) : nanB (nanDraw t) = true ∧ nanDraw t < 2 ^ 64 := by
  unfold nanB nanDraw rg infR
  have h1 : (t / 2) % (2 ^ 52 - 1) < 2 ^ 52 - 1 := Nat.mod_lt _ (by decide)
  generalize (t / 2) % (2 ^ 52 - 1) = q at *
  rcases Nat.mod_two_eq_zero_or_one t with h | h <;> rw [h]
  · exact ⟨by rw [decide_eq_true_eq]; omega, by omega⟩
  · exact ⟨by rw [decide_eq_true_eq]; omega, by omega⟩
end Num
theorem run_nan {P : Program} (w : World) (op : BinOp) (t : TypeId) (x y : Nat) (hop : op = .add ∨ op = .sub ∨ op = .mul ∨ op = .quo) (h : Go.floatBits op .f64 x y = none) :
    ∃ r, nanB r = true ∧ r < 2 ^ 64 ∧ (binOp op t (.float .f64 x) (.float .f64 y)).run P w = .ok (.float .f64 r) w.drew := by
  refine ⟨Num.nanDraw (w.tape w.drawn (.nanBits .f64 x y)), (Num.nanDraw_is _).1, (Num.nanDraw_is _).2, ?_⟩
  unfold Go.floatBits at h
  rcases hop with rfl | rfl | rfl | rfl <;> simp only at h <;> simp [binOp, Op.floatArith, h, Question.forced, Question.cut, Num.nanDraw]
/-- What is worked out of two numbers. -/
def Works (op : BinOp) (x y r : Nat) : Prop := r < 2 ^ 64 ∧ (Go.floatBits op .f64 x y = some r ∨ Go.floatBits op .f64 x y = none ∧ nanB r = true)
theorem Works.same {op : BinOp} {x y r s : Nat} (h1 : Works op x y r) (h2 : Works op x y s) : sameF r s = true := by
  unfold sameF
  rw [decide_eq_true_eq]
  rcases h1.2 with h | ⟨h, hn⟩
  · rcases h2.2 with h' | ⟨h', _⟩
    · rw [h] at h'; cases h'; rfl
    · rw [h] at h'; cases h'
  · rcases h2.2 with h' | ⟨_, hn'⟩
    · rw [h] at h'; cases h'
    · rw [Num.key_nan hn, Num.key_nan hn']
theorem run_works {P : Program} (w : World) (op : BinOp) (t : TypeId) (x y : Nat) (hop : op = .add ∨ op = .sub ∨ op = .mul ∨ op = .quo) :
    ∃ r w', Works op x y r ∧ Below w.heap.size w w' ∧ (binOp op t (.float .f64 x) (.float .f64 y)).run P w = .ok (.float .f64 r) w' := by
  cases h : Go.floatBits op .f64 x y with
  | none =>
    obtain ⟨r, h1, h2, h3⟩ := run_nan (P := P) w op t x y hop h
    exact ⟨r, w.drew, ⟨h2, .inr ⟨h, h1⟩⟩, (Below.refl _ _).drew, h3⟩
  | some r =>
    have hl : r < 2 ^ 64 := by
      have := floatBits_wf h
      simpa [Lit.wf] using this
    exact ⟨r, w, ⟨hl, .inl h⟩, Below.refl _ _, run_float_arith w op t .f64 x y r h⟩
/-- What Do answers. -/
def opOf (o : Nat) : Option BinOp := if o = 43 then some .add else if o = 45 then some .sub else if o = 42 then some .mul else if o = 47 then some .quo else none
def DoPost (o x y : Nat) (w : World) (e : Ending) (w' : World) : Prop :=
  Below w.heap.size w w' ∧ ∃ r, r < 2 ^ 64 ∧ ((∃ op, opOf o = some op ∧ Works op x y r ∧ e = .returned (.tuple #[.float .f64 r, .bool true])) ∨ (opOf o = none ∧ r = 0 ∧ e = .returned (.tuple #[.float .f64 0, .bool false])))
set_option maxRecDepth 100000 in
set_option maxHeartbeats 1600000 in
theorem do_any (o x y : Nat) (w : World) (ho : o < 256) : Calls Tryz.prog 24 #[.int .u8 (o : Int), .float .f64 x, .float .f64 y] w (DoPost o x y w) := by
  have HY := Lib.hid (fun (op : BinOp) (h : opOf o = some op) (r : Nat) (w' : World) (hr : Works op x y r) (hb : Below w.heap.size w w') => show DoPost o x y w (.returned (.tuple #[.float .f64 r, .bool true])) w' from ⟨hb, r, hr.1, .inl ⟨op, h, hr, rfl⟩⟩)
  have HNO := Lib.hid (fun (h : opOf o = none) => show DoPost o x y w (.returned (.tuple #[.float .f64 0, .bool false])) w from ⟨Below.refl _ _, 0, by decide, .inr ⟨h, rfl, rfl⟩⟩)
  generalize DoPost o x y w = post at *
  by_cases h43 : o = 43
  · subst h43
    obtain ⟨r, w1, hr, hb, hrun⟩ := run_works (P := Tryz.prog) w .add 25 x y (by simp)
    have HQ := Lib.hid (HY.out .add rfl r w1 hr hb)
    clear hr hb
    go_enter Tryz.func24, Tryz.ntmps24
    go_wp2
    exact HQ.out
  by_cases h45 : o = 45
  · subst h45
    obtain ⟨r, w1, hr, hb, hrun⟩ := run_works (P := Tryz.prog) w .sub 25 x y (by simp)
    have HQ := Lib.hid (HY.out .sub rfl r w1 hr hb)
    clear hr hb
    go_enter Tryz.func24, Tryz.ntmps24
    go_wp2
    exact HQ.out
  by_cases h42 : o = 42
  · subst h42
    obtain ⟨r, w1, hr, hb, hrun⟩ := run_works (P := Tryz.prog) w .mul 25 x y (by simp)
    have HQ := Lib.hid (HY.out .mul rfl r w1 hr hb)
    clear hr hb
    go_enter Tryz.func24, Tryz.ntmps24
    go_wp2
    exact HQ.out
  by_cases h47 : o = 47
  · subst h47
    obtain ⟨r, w1, hr, hb, hrun⟩ := run_works (P := Tryz.prog) w .quo 25 x y (by simp)
    have HQ := Lib.hid (HY.out .quo rfl r w1 hr hb)
    clear hr hb
    go_enter Tryz.func24, Tryz.ntmps24
    go_wp2
    exact HQ.out
  have HN := Lib.hid (HNO.out (by unfold opOf; rw [if_neg h43, if_neg h45, if_neg h42, if_neg h47]))
  have e1 : ¬ (o : Int) = 43 := by omega
  have e2 : ¬ (o : Int) = 45 := by omega
  have e3 : ¬ (o : Int) = 42 := by omega
  have e4 : ¬ (o : Int) = 47 := by omega
  clear h43 h45 h42 h47
  go_enter Tryz.func24, Tryz.ntmps24
  go_wp2
  exact HN.out
set_option maxRecDepth 100000 in
set_option maxHeartbeats 1600000 in
theorem refDo_any (o x y : Nat) (w : World) (ho : o < 256) : Calls Tryz.prog 25 #[.int .u8 (o : Int), .float .f64 x, .float .f64 y] w (DoPost o x y w) := by
  have HY := Lib.hid (fun (op : BinOp) (h : opOf o = some op) (r : Nat) (w' : World) (hr : Works op x y r) (hb : Below w.heap.size w w') => show DoPost o x y w (.returned (.tuple #[.float .f64 r, .bool true])) w' from ⟨hb, r, hr.1, .inl ⟨op, h, hr, rfl⟩⟩)
  have HNO := Lib.hid (fun (h : opOf o = none) => show DoPost o x y w (.returned (.tuple #[.float .f64 0, .bool false])) w from ⟨Below.refl _ _, 0, by decide, .inr ⟨h, rfl, rfl⟩⟩)
  generalize DoPost o x y w = post at *
  by_cases h43 : o = 43
  · subst h43
    obtain ⟨r, w1, hr, hb, hrun⟩ := run_works (P := Tryz.prog) w .add 25 x y (by simp)
    have HQ := Lib.hid (HY.out .add rfl r w1 hr hb)
    clear hr hb
    go_enter Tryz.func25, Tryz.ntmps25
    go_wp2
    exact HQ.out
  by_cases h45 : o = 45
  · subst h45
    obtain ⟨r, w1, hr, hb, hrun⟩ := run_works (P := Tryz.prog) w .sub 25 x y (by simp)
    have HQ := Lib.hid (HY.out .sub rfl r w1 hr hb)
    clear hr hb
    go_enter Tryz.func25, Tryz.ntmps25
    go_wp2
    exact HQ.out
  by_cases h42 : o = 42
  · subst h42
    obtain ⟨r, w1, hr, hb, hrun⟩ := run_works (P := Tryz.prog) w .mul 25 x y (by simp)
    have HQ := Lib.hid (HY.out .mul rfl r w1 hr hb)
    clear hr hb
    go_enter Tryz.func25, Tryz.ntmps25
    go_wp2
    exact HQ.out
  by_cases h47 : o = 47
  · subst h47
    obtain ⟨r, w1, hr, hb, hrun⟩ := run_works (P := Tryz.prog) w .quo 25 x y (by simp)
    have HQ := Lib.hid (HY.out .quo rfl r w1 hr hb)
    clear hr hb
    go_enter Tryz.func25, Tryz.ntmps25
    go_wp2
    exact HQ.out
  have HN := Lib.hid (HNO.out (by unfold opOf; rw [if_neg h43, if_neg h45, if_neg h42, if_neg h47]))
  have e1 : ¬ (o : Int) = 43 := by omega
  have e2 : ¬ (o : Int) = 45 := by omega
  have e3 : ¬ (o : Int) = 42 := by omega
  have e4 : ¬ (o : Int) = 47 := by omega
  clear h43 h45 h42 h47
  go_enter Tryz.func25, Tryz.ntmps25
  go_wp2
  exact HN.out
end Go.Proofs.YtbmmoclaijoofaaGreatDoor
