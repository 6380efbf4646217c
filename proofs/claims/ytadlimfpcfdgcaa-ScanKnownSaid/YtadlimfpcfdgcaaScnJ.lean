/- scan: works, walked. -/
import Derived.Test.YtadlimfpcfdgcaaSmF
import Derived.Test.YtadlimfpcfdgcaaIvA
set_option linter.unusedVariables false
set_option linter.unusedSimpArgs false
namespace Go.Proofs.Ytadlimfpcfdgcaa
open Go Go.RowKit Go.BigFrame Go.Maps
open Scn (runOf wins winsTo firsts)

def lz : List UInt8 := [48, 48, 48, 48, 48, 48, 48, 48, 48, 48, 48, 48, 48, 48, 48, 48, 48, 48, 48, 48, 48, 48, 48, 48, 48, 48, 48, 48, 48, 48, 48, 48]
def lt1 : List UInt8 := [48, 48, 48, 48, 48, 48, 48, 48, 48, 48, 48, 48, 48, 48, 48, 48, 48, 48, 48, 48, 48, 48, 48, 48, 48, 48, 48, 48, 48, 48, 48]
def lt2 : List UInt8 := [48, 48, 48, 48, 48, 48, 48, 48, 48, 48, 48, 48, 48, 48, 48, 48, 48, 48, 48, 48, 48, 48, 48, 48, 48, 48, 48, 48, 48, 48, 48, 48, 48]
def lt3 : List UInt8 := [101, 48, 48, 48, 48, 48, 48, 48, 48, 48, 48, 48, 48, 48, 48, 48, 48, 48, 48, 48, 48, 48, 48, 48, 48, 48, 48, 48, 48, 48, 48, 48, 48]
def lt4 : List UInt8 := [101, 48, 48, 48, 48, 48, 48, 48, 48, 48, 48, 48, 48, 48, 48, 48, 48, 48, 48, 48, 48, 48, 48, 48, 48, 48, 48, 48, 48, 48, 48, 48, 48, 101]
def lt5 : List UInt8 := [48, 48, 48, 48, 48, 48, 48, 48, 48, 48, 48, 48, 48, 48, 48, 48, 48, 48, 48, 48, 48, 48, 48, 48, 48, 48, 48, 48, 48, 48, 48, 48, 49]
def lt6 : List UInt8 := [48, 48, 48, 48, 48, 48, 48, 48, 48, 48, 48, 48, 48, 48, 48, 48, 48, 48, 48, 48, 48, 48, 48, 48, 48, 48, 48, 48, 48, 48, 48, 49]
def lt7 : List UInt8 := [48, 48, 48, 48, 48, 48, 48, 48, 48, 48, 48, 48, 48, 48, 48, 48, 48, 48, 48, 48, 48, 48, 48, 48, 48, 48, 48, 48, 48, 48, 48, 48, 45, 97]
def lt8 : List UInt8 := [98]
theorem all_lt1 : allF (strOf lt1) = [] := by decide +kernel
theorem all_lt2 : allF (strOf lt2) = [strOf lz] := by decide +kernel
theorem all_lt4 : allF (strOf lt4) = [strOf lz] := by decide +kernel
theorem all_lt5 : allF (strOf lt5) = [strOf lz, strOf lt6] := by decide +kernel
theorem refs_ex : refsF (strOf lz) [strOf lt7, strOf lt8] = [strOf lt7] := by decide +kernel
theorem small_ex : SmallT [strOf lt7, strOf lt8] := by
  intro s hs
  simp only [List.mem_cons, List.not_mem_nil, or_false] at hs
  rcases hs with rfl | rfl <;> decide
theorem zero_is : Nam.letS (fun _ => 0) = strOf lz := by decide +kernel
theorem wanted_of {ops : Array Oper} {o p : Oper} {a : Act} {j d : Nat} {b : Bool} (hg : o.guard = some (j, b)) (hp : ops[j]? = some p) (hd : p.dst = some d) (hv : a.tmps.getD d undef = .bool b) : Region.wanted o (yielded ops a.tmps) = true := by
  have hy : yielded ops a.tmps j = some b := by
    unfold yielded
    rw [hp]
    simp only [Option.bind_some, hd]
    by_cases hlt : d < a.tmps.size
    · rw [Array.getElem?_eq_getElem hlt]
      have : a.tmps[d] = .bool b := by simpa [Array.getD, hlt] using hv
      rw [this]
    · simp [Array.getD, hlt] at hv
      cases hv
  unfold Region.wanted
  rw [hg]
  simp [hy]
/-- What a slot may hold. -/
inductive Kd
  | txt (l : List UInt8) | byt (l : List UInt8) | row (xs : List ByteArray) | boo (b : Bool) | num (n : Int)
def RW : Kd → Value → World → Prop
  | .txt l, v, _ => v = .string (strOf l)
  | .byt l, v, w => BytAt w w.heap.size v l
  | .row xs, v, w => Reads w w.heap.size v (strs xs)
  | .boo b, v, _ => v = .bool b
  | .num n, v, _ => v = .int .i64 n
theorem RW.below {k : Kd} {v : Value} {w w' : World} (h : RW k v w) (hb : Below w.heap.size w w') : RW k v w' := by
  cases k with
  | txt l => exact h
  | byt l => exact (BytAt.keep h hb).more hb.size
  | row xs => exact (Reads.below h hb).more hb.size
  | boo b => exact h
  | num n => exact h
def kindsW : List Kd := [.txt lz, .txt lt1, .byt lt1, .row [], .num 0, .boo true, .boo true, .txt lz, .txt lt2, .byt lt2, .row [strOf lz], .txt lz, .row [strOf lz], .boo true, .boo true, .boo true, .txt lz, .txt lt3, .txt lt4, .byt lt4, .row [strOf lz], .txt lz, .row [strOf lz], .boo true, .boo true, .boo true, .txt lz, .txt lt5, .byt lt5, .row [strOf lz, strOf lt6], .txt lz, .txt lz, .txt lt1, .txt lt6, .row [strOf lz, strOf lt6], .boo true, .boo true, .boo true, .txt lz, .byt lz, .txt lz, .txt lt7, .row [strOf lt7, strOf lt8], .row [strOf lt7], .txt lz, .txt lt7, .row [strOf lt7], .boo true, .boo true, .boo true]
set_option maxRecDepth 100000 in
set_option maxHeartbeats 8000000 in
theorem works_any (w : World) : Calls Try.prog 6 #[] w fun e W => e = .returned (.bool true) ∧ Below w.heap.size w W := by
  go_enter Try.func6, Try.ntmps6
  have HLT := Lib.hid (Nam.letters_is (fun _ => 0) (fun _ => by decide) w)
  rw [zero_is] at HLT
  go_upto_region 2 with (go_at_call 10; refine HLT.out.mono ?_; rintro e w1 ⟨rfl, hb1⟩)
  refine Inv.wp_region_invW (by kernel_rfl) (fun w' => KeepW w1 w1.heap.size w') (fun k v w' => RW (kindsW.getD k (.num 7)) v w') (Inv.formW_spec (by kernel_rfl)) (KeepW.start (Nat.le_refl _)).drew (Inv.Each.steps ?_ rfl) (fun f w5 hC hR => ?_)
  · clear HLT
    refine ⟨?_, ?_, ?_, ?_, ?_, ?_, ?_, ?_, ?_, ?_, ?_, ?_, ?_, ?_, ?_, ?_, ?_, ?_, ?_, ?_, ?_, ?_, ?_, ?_, ?_, ?_, ?_, ?_, ?_, ?_, ?_, ?_, ?_, ?_, ?_, ?_, ?_, ?_, ?_, ?_, ?_, ?_, ?_, ?_, ?_, ?_, ?_, ?_, ?_, ?_, trivial⟩
    · refine Inv.StepW.of_run rfl (fun _ _ _ => rfl) ⟨fun a w' hC hdep hfix => ?_⟩
      refine ⟨a.eval (.tmp 1), w', rfl, hC, ((hfix 1 (by decide)).trans rfl : RW (.txt lz) (a.eval (.tmp 1)) w'), fun _ _ h => h⟩
    · refine Inv.StepW.of_run rfl (fun _ _ _ => rfl) ⟨fun a w' hC hdep hfix => ?_⟩
      have e0 : a.eval (.tmp 4) = .string (strOf lz) := hdep 0 _ 4 rfl rfl (by kernel_rfl)
      refine ⟨.string (strOf lt1), w', ?_, hC, rfl, fun _ _ h => h⟩
      simp only [execOp, List.map_toArray, List.map_cons, List.map_nil, e0]
      kernel_rfl
    · refine Inv.StepW.of_run rfl (fun _ _ _ => rfl) ⟨fun a w' hC hdep hfix => ?_⟩
      have e0 : a.eval (.tmp 5) = .string (strOf lt1) := hdep 1 _ 5 rfl rfl (by kernel_rfl)
      obtain ⟨A2, c2, w2, hcv, hb2, hbt⟩ := bytes_conv w' lt1 (by decide)
      refine ⟨.slice A2 lt1.length c2, w2, ?_, hC.step hb2, hbt, fun _ _ h => RW.below h hb2⟩
      simp [execOp, e0, hcv, Result.andThen]
    · refine Inv.StepW.of_call (f := 7) rfl (fun _ _ _ => rfl) (fun a w' hC hdep hfix => ?_)
      have e0 : BytAt w' w'.heap.size (a.eval (.tmp 6)) lt1 := hdep 2 _ 6 rfl rfl (by kernel_rfl)
      refine ⟨#[a.eval (.tmp 6)], w', (by simp only [execOp, resolve, List.map_toArray, List.map_cons, List.map_nil]; kernel_rfl), (all_any _ lt1 _ w' e0 (Nat.le_refl _) (by decide)).mono ?_⟩
      rintro e w2 ⟨hb2, v2, rfl, ho2⟩
      rw [all_lt1] at ho2
      exact ⟨_, rfl, hC.step hb2, Reads.own ho2, fun _ _ h => RW.below h hb2⟩
    · refine Inv.StepW.of_run rfl (fun _ _ _ => rfl) ⟨fun a w' hC hdep hfix => ?_⟩
      have e0 : Reads w' w'.heap.size (a.eval (.tmp 7)) (strs []) := hdep 3 _ 7 rfl rfl (by kernel_rfl)
      obtain ⟨A2, c2, e2, _⟩ := e0
      refine ⟨.int .i64 0, w', ?_, hC, rfl, fun _ _ h => h⟩
      simp only [execOp, resolve, List.map_toArray, List.map_cons, List.map_nil, e2]
      kernel_rfl
    · refine Inv.StepW.of_run rfl (fun _ _ _ => rfl) ⟨fun a w' hC hdep hfix => ?_⟩
      have e0 : a.eval (.tmp 8) = .int .i64 0 := hdep 4 _ 8 rfl rfl (by kernel_rfl)
      refine ⟨.bool true, w', ?_, hC, rfl, fun _ _ h => h⟩
      simp only [execOp, List.map_toArray, List.map_cons, List.map_nil, e0]
      kernel_rfl
    · refine Inv.StepW.of_run rfl (fun _ _ _ => rfl) ⟨fun a w' hC hdep hfix => ?_⟩
      refine ⟨a.eval (.tmp 9), w', rfl, hC, (hdep 5 _ 9 rfl rfl (by kernel_rfl) : RW (.boo true) (a.eval (.tmp 9)) w'), fun _ _ h => h⟩
    · refine Inv.StepW.of_run rfl (fun a w' hdep => wanted_of (j := 6) (b := true) (d := 10) rfl rfl rfl (hdep 6 _ 10 rfl rfl (by kernel_rfl))) ⟨fun a w' hC hdep hfix => ?_⟩
      refine ⟨a.eval (.tmp 1), w', rfl, hC, ((hfix 1 (by decide)).trans rfl : RW (.txt lz) (a.eval (.tmp 1)) w'), fun _ _ h => h⟩
    · refine Inv.StepW.of_run rfl (fun a w' hdep => wanted_of (j := 6) (b := true) (d := 10) rfl rfl rfl (hdep 6 _ 10 rfl rfl (by kernel_rfl))) ⟨fun a w' hC hdep hfix => ?_⟩
      have e0 : a.eval (.tmp 11) = .string (strOf lz) := hdep 7 _ 11 rfl rfl (by kernel_rfl)
      refine ⟨.string (strOf lt2), w', ?_, hC, rfl, fun _ _ h => h⟩
      simp only [execOp, List.map_toArray, List.map_cons, List.map_nil, e0]
      kernel_rfl
    · refine Inv.StepW.of_run rfl (fun a w' hdep => wanted_of (j := 6) (b := true) (d := 10) rfl rfl rfl (hdep 6 _ 10 rfl rfl (by kernel_rfl))) ⟨fun a w' hC hdep hfix => ?_⟩
      have e0 : a.eval (.tmp 12) = .string (strOf lt2) := hdep 8 _ 12 rfl rfl (by kernel_rfl)
      obtain ⟨A2, c2, w2, hcv, hb2, hbt⟩ := bytes_conv w' lt2 (by decide)
      refine ⟨.slice A2 lt2.length c2, w2, ?_, hC.step hb2, hbt, fun _ _ h => RW.below h hb2⟩
      simp [execOp, e0, hcv, Result.andThen]
    · refine Inv.StepW.of_call (f := 7) rfl (fun a w' hdep => wanted_of (j := 6) (b := true) (d := 10) rfl rfl rfl (hdep 6 _ 10 rfl rfl (by kernel_rfl))) (fun a w' hC hdep hfix => ?_)
      have e0 : BytAt w' w'.heap.size (a.eval (.tmp 13)) lt2 := hdep 9 _ 13 rfl rfl (by kernel_rfl)
      refine ⟨#[a.eval (.tmp 13)], w', (by simp only [execOp, resolve, List.map_toArray, List.map_cons, List.map_nil]; kernel_rfl), (all_any _ lt2 _ w' e0 (Nat.le_refl _) (by decide)).mono ?_⟩
      rintro e w2 ⟨hb2, v2, rfl, ho2⟩
      rw [all_lt2] at ho2
      exact ⟨_, rfl, hC.step hb2, Reads.own ho2, fun _ _ h => RW.below h hb2⟩
    · refine Inv.StepW.of_run rfl (fun a w' hdep => wanted_of (j := 6) (b := true) (d := 10) rfl rfl rfl (hdep 6 _ 10 rfl rfl (by kernel_rfl))) ⟨fun a w' hC hdep hfix => ?_⟩
      refine ⟨a.eval (.tmp 1), w', rfl, hC, ((hfix 1 (by decide)).trans rfl : RW (.txt lz) (a.eval (.tmp 1)) w'), fun _ _ h => h⟩
    · refine Inv.StepW.of_run rfl (fun a w' hdep => wanted_of (j := 6) (b := true) (d := 10) rfl rfl rfl (hdep 6 _ 10 rfl rfl (by kernel_rfl))) ⟨fun a w' hC hdep hfix => ?_⟩
      have e0 : a.eval (.tmp 15) = .string (strOf lz) := hdep 11 _ 15 rfl rfl (by kernel_rfl)
      have hba : Below w'.heap.size w' (w'.alloc (.cells #[.string (strOf lz)] 9)) := (Below.refl _ _).alloc (Nat.le_refl _) _
      refine ⟨.slice (some ⟨w'.heap.size, 0, none⟩) 1 1, w'.alloc (.cells #[.string (strOf lz)] 9), ?_, hC.alloc _, reads_new w' #[.string (strOf lz)] 9 (strs [strOf lz]) rfl (by decide), fun _ _ h => RW.below h hba⟩
      unfold execOp
      simp only [List.map_toArray, List.map_cons, List.map_nil, e0]
      kernel_rfl
    · refine Inv.StepW.of_call (f := 9) rfl (fun a w' hdep => wanted_of (j := 6) (b := true) (d := 10) rfl rfl rfl (hdep 6 _ 10 rfl rfl (by kernel_rfl))) (fun a w' hC hdep hfix => ?_)
      have e0 : Reads w' w'.heap.size (a.eval (.tmp 14)) (strs [strOf lz]) := hdep 10 _ 14 rfl rfl (by kernel_rfl)
      have e1 : Reads w' w'.heap.size (a.eval (.tmp 16)) (strs [strOf lz]) := hdep 12 _ 16 rfl rfl (by kernel_rfl)
      refine ⟨#[a.eval (.tmp 14), a.eval (.tmp 16)], w', (by simp only [execOp, resolve, List.map_toArray, List.map_cons, List.map_nil]; kernel_rfl), (sameTexts_any _ _ _ _ _ w' e0 e1).mono ?_⟩
      rintro e w2 ⟨rfl, nq, rfl⟩
      have hb2 := below_drewN (Below.refl w'.heap.size w') nq
      exact ⟨_, rfl, hC.step hb2, by rw [decide_eq_true rfl]; rfl, fun _ _ h => RW.below h hb2⟩
    · refine Inv.StepW.of_run rfl (fun _ _ _ => rfl) ⟨fun a w' hC hdep hfix => ?_⟩
      have e0 : a.eval (.tmp 10) = .bool true := hdep 6 _ 10 rfl rfl (by kernel_rfl)
      have e1 : a.eval (.tmp 17) = .bool true := hdep 13 _ 17 rfl rfl (by kernel_rfl)
      refine ⟨.bool true, w', ?_, hC, rfl, fun _ _ h => h⟩
      simp only [execOp, List.map_toArray, List.map_cons, List.map_nil, e0, e1]
      kernel_rfl
    · refine Inv.StepW.of_run rfl (fun _ _ _ => rfl) ⟨fun a w' hC hdep hfix => ?_⟩
      refine ⟨a.eval (.tmp 18), w', rfl, hC, (hdep 14 _ 18 rfl rfl (by kernel_rfl) : RW (.boo true) (a.eval (.tmp 18)) w'), fun _ _ h => h⟩
    · refine Inv.StepW.of_run rfl (fun a w' hdep => wanted_of (j := 15) (b := true) (d := 19) rfl rfl rfl (hdep 15 _ 19 rfl rfl (by kernel_rfl))) ⟨fun a w' hC hdep hfix => ?_⟩
      refine ⟨a.eval (.tmp 1), w', rfl, hC, ((hfix 1 (by decide)).trans rfl : RW (.txt lz) (a.eval (.tmp 1)) w'), fun _ _ h => h⟩
    · refine Inv.StepW.of_run rfl (fun a w' hdep => wanted_of (j := 15) (b := true) (d := 19) rfl rfl rfl (hdep 15 _ 19 rfl rfl (by kernel_rfl))) ⟨fun a w' hC hdep hfix => ?_⟩
      have e0 : a.eval (.tmp 20) = .string (strOf lz) := hdep 16 _ 20 rfl rfl (by kernel_rfl)
      refine ⟨.string (strOf lt3), w', ?_, hC, rfl, fun _ _ h => h⟩
      simp only [execOp, List.map_toArray, List.map_cons, List.map_nil, e0]
      kernel_rfl
    · refine Inv.StepW.of_run rfl (fun a w' hdep => wanted_of (j := 15) (b := true) (d := 19) rfl rfl rfl (hdep 15 _ 19 rfl rfl (by kernel_rfl))) ⟨fun a w' hC hdep hfix => ?_⟩
      have e0 : a.eval (.tmp 21) = .string (strOf lt3) := hdep 17 _ 21 rfl rfl (by kernel_rfl)
      refine ⟨.string (strOf lt4), w', ?_, hC, rfl, fun _ _ h => h⟩
      simp only [execOp, List.map_toArray, List.map_cons, List.map_nil, e0]
      kernel_rfl
    · refine Inv.StepW.of_run rfl (fun a w' hdep => wanted_of (j := 15) (b := true) (d := 19) rfl rfl rfl (hdep 15 _ 19 rfl rfl (by kernel_rfl))) ⟨fun a w' hC hdep hfix => ?_⟩
      have e0 : a.eval (.tmp 22) = .string (strOf lt4) := hdep 18 _ 22 rfl rfl (by kernel_rfl)
      obtain ⟨A2, c2, w2, hcv, hb2, hbt⟩ := bytes_conv w' lt4 (by decide)
      refine ⟨.slice A2 lt4.length c2, w2, ?_, hC.step hb2, hbt, fun _ _ h => RW.below h hb2⟩
      simp [execOp, e0, hcv, Result.andThen]
    · refine Inv.StepW.of_call (f := 7) rfl (fun a w' hdep => wanted_of (j := 15) (b := true) (d := 19) rfl rfl rfl (hdep 15 _ 19 rfl rfl (by kernel_rfl))) (fun a w' hC hdep hfix => ?_)
      have e0 : BytAt w' w'.heap.size (a.eval (.tmp 23)) lt4 := hdep 19 _ 23 rfl rfl (by kernel_rfl)
      refine ⟨#[a.eval (.tmp 23)], w', (by simp only [execOp, resolve, List.map_toArray, List.map_cons, List.map_nil]; kernel_rfl), (all_any _ lt4 _ w' e0 (Nat.le_refl _) (by decide)).mono ?_⟩
      rintro e w2 ⟨hb2, v2, rfl, ho2⟩
      rw [all_lt4] at ho2
      exact ⟨_, rfl, hC.step hb2, Reads.own ho2, fun _ _ h => RW.below h hb2⟩
    · refine Inv.StepW.of_run rfl (fun a w' hdep => wanted_of (j := 15) (b := true) (d := 19) rfl rfl rfl (hdep 15 _ 19 rfl rfl (by kernel_rfl))) ⟨fun a w' hC hdep hfix => ?_⟩
      refine ⟨a.eval (.tmp 1), w', rfl, hC, ((hfix 1 (by decide)).trans rfl : RW (.txt lz) (a.eval (.tmp 1)) w'), fun _ _ h => h⟩
    · refine Inv.StepW.of_run rfl (fun a w' hdep => wanted_of (j := 15) (b := true) (d := 19) rfl rfl rfl (hdep 15 _ 19 rfl rfl (by kernel_rfl))) ⟨fun a w' hC hdep hfix => ?_⟩
      have e0 : a.eval (.tmp 25) = .string (strOf lz) := hdep 21 _ 25 rfl rfl (by kernel_rfl)
      have hba : Below w'.heap.size w' (w'.alloc (.cells #[.string (strOf lz)] 9)) := (Below.refl _ _).alloc (Nat.le_refl _) _
      refine ⟨.slice (some ⟨w'.heap.size, 0, none⟩) 1 1, w'.alloc (.cells #[.string (strOf lz)] 9), ?_, hC.alloc _, reads_new w' #[.string (strOf lz)] 9 (strs [strOf lz]) rfl (by decide), fun _ _ h => RW.below h hba⟩
      unfold execOp
      simp only [List.map_toArray, List.map_cons, List.map_nil, e0]
      kernel_rfl
    · refine Inv.StepW.of_call (f := 9) rfl (fun a w' hdep => wanted_of (j := 15) (b := true) (d := 19) rfl rfl rfl (hdep 15 _ 19 rfl rfl (by kernel_rfl))) (fun a w' hC hdep hfix => ?_)
      have e0 : Reads w' w'.heap.size (a.eval (.tmp 24)) (strs [strOf lz]) := hdep 20 _ 24 rfl rfl (by kernel_rfl)
      have e1 : Reads w' w'.heap.size (a.eval (.tmp 26)) (strs [strOf lz]) := hdep 22 _ 26 rfl rfl (by kernel_rfl)
      refine ⟨#[a.eval (.tmp 24), a.eval (.tmp 26)], w', (by simp only [execOp, resolve, List.map_toArray, List.map_cons, List.map_nil]; kernel_rfl), (sameTexts_any _ _ _ _ _ w' e0 e1).mono ?_⟩
      rintro e w2 ⟨rfl, nq, rfl⟩
      have hb2 := below_drewN (Below.refl w'.heap.size w') nq
      exact ⟨_, rfl, hC.step hb2, by rw [decide_eq_true rfl]; rfl, fun _ _ h => RW.below h hb2⟩
    · refine Inv.StepW.of_run rfl (fun _ _ _ => rfl) ⟨fun a w' hC hdep hfix => ?_⟩
      have e0 : a.eval (.tmp 19) = .bool true := hdep 15 _ 19 rfl rfl (by kernel_rfl)
      have e1 : a.eval (.tmp 27) = .bool true := hdep 23 _ 27 rfl rfl (by kernel_rfl)
      refine ⟨.bool true, w', ?_, hC, rfl, fun _ _ h => h⟩
      simp only [execOp, List.map_toArray, List.map_cons, List.map_nil, e0, e1]
      kernel_rfl
    · refine Inv.StepW.of_run rfl (fun _ _ _ => rfl) ⟨fun a w' hC hdep hfix => ?_⟩
      refine ⟨a.eval (.tmp 28), w', rfl, hC, (hdep 24 _ 28 rfl rfl (by kernel_rfl) : RW (.boo true) (a.eval (.tmp 28)) w'), fun _ _ h => h⟩
    · refine Inv.StepW.of_run rfl (fun a w' hdep => wanted_of (j := 25) (b := true) (d := 29) rfl rfl rfl (hdep 25 _ 29 rfl rfl (by kernel_rfl))) ⟨fun a w' hC hdep hfix => ?_⟩
      refine ⟨a.eval (.tmp 1), w', rfl, hC, ((hfix 1 (by decide)).trans rfl : RW (.txt lz) (a.eval (.tmp 1)) w'), fun _ _ h => h⟩
    · refine Inv.StepW.of_run rfl (fun a w' hdep => wanted_of (j := 25) (b := true) (d := 29) rfl rfl rfl (hdep 25 _ 29 rfl rfl (by kernel_rfl))) ⟨fun a w' hC hdep hfix => ?_⟩
      have e0 : a.eval (.tmp 30) = .string (strOf lz) := hdep 26 _ 30 rfl rfl (by kernel_rfl)
      refine ⟨.string (strOf lt5), w', ?_, hC, rfl, fun _ _ h => h⟩
      simp only [execOp, List.map_toArray, List.map_cons, List.map_nil, e0]
      kernel_rfl
    · refine Inv.StepW.of_run rfl (fun a w' hdep => wanted_of (j := 25) (b := true) (d := 29) rfl rfl rfl (hdep 25 _ 29 rfl rfl (by kernel_rfl))) ⟨fun a w' hC hdep hfix => ?_⟩
      have e0 : a.eval (.tmp 31) = .string (strOf lt5) := hdep 27 _ 31 rfl rfl (by kernel_rfl)
      obtain ⟨A2, c2, w2, hcv, hb2, hbt⟩ := bytes_conv w' lt5 (by decide)
      refine ⟨.slice A2 lt5.length c2, w2, ?_, hC.step hb2, hbt, fun _ _ h => RW.below h hb2⟩
      simp [execOp, e0, hcv, Result.andThen]
    · refine Inv.StepW.of_call (f := 7) rfl (fun a w' hdep => wanted_of (j := 25) (b := true) (d := 29) rfl rfl rfl (hdep 25 _ 29 rfl rfl (by kernel_rfl))) (fun a w' hC hdep hfix => ?_)
      have e0 : BytAt w' w'.heap.size (a.eval (.tmp 32)) lt5 := hdep 28 _ 32 rfl rfl (by kernel_rfl)
      refine ⟨#[a.eval (.tmp 32)], w', (by simp only [execOp, resolve, List.map_toArray, List.map_cons, List.map_nil]; kernel_rfl), (all_any _ lt5 _ w' e0 (Nat.le_refl _) (by decide)).mono ?_⟩
      rintro e w2 ⟨hb2, v2, rfl, ho2⟩
      rw [all_lt5] at ho2
      exact ⟨_, rfl, hC.step hb2, Reads.own ho2, fun _ _ h => RW.below h hb2⟩
    · refine Inv.StepW.of_run rfl (fun a w' hdep => wanted_of (j := 25) (b := true) (d := 29) rfl rfl rfl (hdep 25 _ 29 rfl rfl (by kernel_rfl))) ⟨fun a w' hC hdep hfix => ?_⟩
      refine ⟨a.eval (.tmp 1), w', rfl, hC, ((hfix 1 (by decide)).trans rfl : RW (.txt lz) (a.eval (.tmp 1)) w'), fun _ _ h => h⟩
    · refine Inv.StepW.of_run rfl (fun a w' hdep => wanted_of (j := 25) (b := true) (d := 29) rfl rfl rfl (hdep 25 _ 29 rfl rfl (by kernel_rfl))) ⟨fun a w' hC hdep hfix => ?_⟩
      refine ⟨a.eval (.tmp 1), w', rfl, hC, ((hfix 1 (by decide)).trans rfl : RW (.txt lz) (a.eval (.tmp 1)) w'), fun _ _ h => h⟩
    · refine Inv.StepW.of_run rfl (fun a w' hdep => wanted_of (j := 25) (b := true) (d := 29) rfl rfl rfl (hdep 25 _ 29 rfl rfl (by kernel_rfl))) ⟨fun a w' hC hdep hfix => ?_⟩
      have e0 : a.eval (.tmp 35) = .string (strOf lz) := hdep 31 _ 35 rfl rfl (by kernel_rfl)
      refine ⟨.string (strOf lt1), w', ?_, hC, rfl, fun _ _ h => h⟩
      simp only [execOp, List.map_toArray, List.map_cons, List.map_nil, e0]
      kernel_rfl
    · refine Inv.StepW.of_run rfl (fun a w' hdep => wanted_of (j := 25) (b := true) (d := 29) rfl rfl rfl (hdep 25 _ 29 rfl rfl (by kernel_rfl))) ⟨fun a w' hC hdep hfix => ?_⟩
      have e0 : a.eval (.tmp 36) = .string (strOf lt1) := hdep 32 _ 36 rfl rfl (by kernel_rfl)
      refine ⟨.string (strOf lt6), w', ?_, hC, rfl, fun _ _ h => h⟩
      simp only [execOp, List.map_toArray, List.map_cons, List.map_nil, e0]
      kernel_rfl
    · refine Inv.StepW.of_run rfl (fun a w' hdep => wanted_of (j := 25) (b := true) (d := 29) rfl rfl rfl (hdep 25 _ 29 rfl rfl (by kernel_rfl))) ⟨fun a w' hC hdep hfix => ?_⟩
      have e0 : a.eval (.tmp 34) = .string (strOf lz) := hdep 30 _ 34 rfl rfl (by kernel_rfl)
      have e1 : a.eval (.tmp 37) = .string (strOf lt6) := hdep 33 _ 37 rfl rfl (by kernel_rfl)
      have hba : Below w'.heap.size w' (w'.alloc (.cells #[.string (strOf lz), .string (strOf lt6)] 9)) := (Below.refl _ _).alloc (Nat.le_refl _) _
      refine ⟨.slice (some ⟨w'.heap.size, 0, none⟩) 2 2, w'.alloc (.cells #[.string (strOf lz), .string (strOf lt6)] 9), ?_, hC.alloc _, reads_new w' #[.string (strOf lz), .string (strOf lt6)] 9 (strs [strOf lz, strOf lt6]) rfl (by decide), fun _ _ h => RW.below h hba⟩
      unfold execOp
      simp only [List.map_toArray, List.map_cons, List.map_nil, e0, e1]
      kernel_rfl
    · refine Inv.StepW.of_call (f := 9) rfl (fun a w' hdep => wanted_of (j := 25) (b := true) (d := 29) rfl rfl rfl (hdep 25 _ 29 rfl rfl (by kernel_rfl))) (fun a w' hC hdep hfix => ?_)
      have e0 : Reads w' w'.heap.size (a.eval (.tmp 33)) (strs [strOf lz, strOf lt6]) := hdep 29 _ 33 rfl rfl (by kernel_rfl)
      have e1 : Reads w' w'.heap.size (a.eval (.tmp 38)) (strs [strOf lz, strOf lt6]) := hdep 34 _ 38 rfl rfl (by kernel_rfl)
      refine ⟨#[a.eval (.tmp 33), a.eval (.tmp 38)], w', (by simp only [execOp, resolve, List.map_toArray, List.map_cons, List.map_nil]; kernel_rfl), (sameTexts_any _ _ _ _ _ w' e0 e1).mono ?_⟩
      rintro e w2 ⟨rfl, nq, rfl⟩
      have hb2 := below_drewN (Below.refl w'.heap.size w') nq
      exact ⟨_, rfl, hC.step hb2, by rw [decide_eq_true rfl]; rfl, fun _ _ h => RW.below h hb2⟩
    · refine Inv.StepW.of_run rfl (fun _ _ _ => rfl) ⟨fun a w' hC hdep hfix => ?_⟩
      have e0 : a.eval (.tmp 29) = .bool true := hdep 25 _ 29 rfl rfl (by kernel_rfl)
      have e1 : a.eval (.tmp 39) = .bool true := hdep 35 _ 39 rfl rfl (by kernel_rfl)
      refine ⟨.bool true, w', ?_, hC, rfl, fun _ _ h => h⟩
      simp only [execOp, List.map_toArray, List.map_cons, List.map_nil, e0, e1]
      kernel_rfl
    · refine Inv.StepW.of_run rfl (fun _ _ _ => rfl) ⟨fun a w' hC hdep hfix => ?_⟩
      refine ⟨a.eval (.tmp 40), w', rfl, hC, (hdep 36 _ 40 rfl rfl (by kernel_rfl) : RW (.boo true) (a.eval (.tmp 40)) w'), fun _ _ h => h⟩
    · refine Inv.StepW.of_run rfl (fun a w' hdep => wanted_of (j := 37) (b := true) (d := 41) rfl rfl rfl (hdep 37 _ 41 rfl rfl (by kernel_rfl))) ⟨fun a w' hC hdep hfix => ?_⟩
      refine ⟨a.eval (.tmp 1), w', rfl, hC, ((hfix 1 (by decide)).trans rfl : RW (.txt lz) (a.eval (.tmp 1)) w'), fun _ _ h => h⟩
    · refine Inv.StepW.of_run rfl (fun a w' hdep => wanted_of (j := 37) (b := true) (d := 41) rfl rfl rfl (hdep 37 _ 41 rfl rfl (by kernel_rfl))) ⟨fun a w' hC hdep hfix => ?_⟩
      have e0 : a.eval (.tmp 42) = .string (strOf lz) := hdep 38 _ 42 rfl rfl (by kernel_rfl)
      obtain ⟨A2, c2, w2, hcv, hb2, hbt⟩ := bytes_conv w' lz (by decide)
      refine ⟨.slice A2 lz.length c2, w2, ?_, hC.step hb2, hbt, fun _ _ h => RW.below h hb2⟩
      simp [execOp, e0, hcv, Result.andThen]
    · refine Inv.StepW.of_run rfl (fun a w' hdep => wanted_of (j := 37) (b := true) (d := 41) rfl rfl rfl (hdep 37 _ 41 rfl rfl (by kernel_rfl))) ⟨fun a w' hC hdep hfix => ?_⟩
      refine ⟨a.eval (.tmp 1), w', rfl, hC, ((hfix 1 (by decide)).trans rfl : RW (.txt lz) (a.eval (.tmp 1)) w'), fun _ _ h => h⟩
    · refine Inv.StepW.of_run rfl (fun a w' hdep => wanted_of (j := 37) (b := true) (d := 41) rfl rfl rfl (hdep 37 _ 41 rfl rfl (by kernel_rfl))) ⟨fun a w' hC hdep hfix => ?_⟩
      have e0 : a.eval (.tmp 44) = .string (strOf lz) := hdep 40 _ 44 rfl rfl (by kernel_rfl)
      refine ⟨.string (strOf lt7), w', ?_, hC, rfl, fun _ _ h => h⟩
      simp only [execOp, List.map_toArray, List.map_cons, List.map_nil, e0]
      kernel_rfl
    · refine Inv.StepW.of_run rfl (fun a w' hdep => wanted_of (j := 37) (b := true) (d := 41) rfl rfl rfl (hdep 37 _ 41 rfl rfl (by kernel_rfl))) ⟨fun a w' hC hdep hfix => ?_⟩
      have e0 : a.eval (.tmp 45) = .string (strOf lt7) := hdep 41 _ 45 rfl rfl (by kernel_rfl)
      have hba : Below w'.heap.size w' (w'.alloc (.cells #[.string (strOf lt7), .string (strOf lt8)] 9)) := (Below.refl _ _).alloc (Nat.le_refl _) _
      refine ⟨.slice (some ⟨w'.heap.size, 0, none⟩) 2 2, w'.alloc (.cells #[.string (strOf lt7), .string (strOf lt8)] 9), ?_, hC.alloc _, reads_new w' #[.string (strOf lt7), .string (strOf lt8)] 9 (strs [strOf lt7, strOf lt8]) rfl (by decide), fun _ _ h => RW.below h hba⟩
      unfold execOp
      simp only [List.map_toArray, List.map_cons, List.map_nil, e0]
      kernel_rfl
    · refine Inv.StepW.of_call (f := 12) rfl (fun a w' hdep => wanted_of (j := 37) (b := true) (d := 41) rfl rfl rfl (hdep 37 _ 41 rfl rfl (by kernel_rfl))) (fun a w' hC hdep hfix => ?_)
      have e0 : BytAt w' w'.heap.size (a.eval (.tmp 43)) lz := hdep 39 _ 43 rfl rfl (by kernel_rfl)
      have e1 : Reads w' w'.heap.size (a.eval (.tmp 46)) (strs [strOf lt7, strOf lt8]) := hdep 42 _ 46 rfl rfl (by kernel_rfl)
      refine ⟨#[a.eval (.tmp 43), a.eval (.tmp 46)], w', (by simp only [execOp, resolve, List.map_toArray, List.map_cons, List.map_nil]; kernel_rfl), (refs_any _ _ lz _ _ w' e0 e1 (Nat.le_refl _) small_ex (by decide) (by decide)).mono ?_⟩
      rintro e w2 ⟨hb2, v2, rfl, ho2⟩
      rw [refs_ex] at ho2
      exact ⟨_, rfl, hC.step hb2, Reads.own ho2, fun _ _ h => RW.below h hb2⟩
    · refine Inv.StepW.of_run rfl (fun a w' hdep => wanted_of (j := 37) (b := true) (d := 41) rfl rfl rfl (hdep 37 _ 41 rfl rfl (by kernel_rfl))) ⟨fun a w' hC hdep hfix => ?_⟩
      refine ⟨a.eval (.tmp 1), w', rfl, hC, ((hfix 1 (by decide)).trans rfl : RW (.txt lz) (a.eval (.tmp 1)) w'), fun _ _ h => h⟩
    · refine Inv.StepW.of_run rfl (fun a w' hdep => wanted_of (j := 37) (b := true) (d := 41) rfl rfl rfl (hdep 37 _ 41 rfl rfl (by kernel_rfl))) ⟨fun a w' hC hdep hfix => ?_⟩
      have e0 : a.eval (.tmp 48) = .string (strOf lz) := hdep 44 _ 48 rfl rfl (by kernel_rfl)
      refine ⟨.string (strOf lt7), w', ?_, hC, rfl, fun _ _ h => h⟩
      simp only [execOp, List.map_toArray, List.map_cons, List.map_nil, e0]
      kernel_rfl
    · refine Inv.StepW.of_run rfl (fun a w' hdep => wanted_of (j := 37) (b := true) (d := 41) rfl rfl rfl (hdep 37 _ 41 rfl rfl (by kernel_rfl))) ⟨fun a w' hC hdep hfix => ?_⟩
      have e0 : a.eval (.tmp 49) = .string (strOf lt7) := hdep 45 _ 49 rfl rfl (by kernel_rfl)
      have hba : Below w'.heap.size w' (w'.alloc (.cells #[.string (strOf lt7)] 9)) := (Below.refl _ _).alloc (Nat.le_refl _) _
      refine ⟨.slice (some ⟨w'.heap.size, 0, none⟩) 1 1, w'.alloc (.cells #[.string (strOf lt7)] 9), ?_, hC.alloc _, reads_new w' #[.string (strOf lt7)] 9 (strs [strOf lt7]) rfl (by decide), fun _ _ h => RW.below h hba⟩
      unfold execOp
      simp only [List.map_toArray, List.map_cons, List.map_nil, e0]
      kernel_rfl
    · refine Inv.StepW.of_call (f := 9) rfl (fun a w' hdep => wanted_of (j := 37) (b := true) (d := 41) rfl rfl rfl (hdep 37 _ 41 rfl rfl (by kernel_rfl))) (fun a w' hC hdep hfix => ?_)
      have e0 : Reads w' w'.heap.size (a.eval (.tmp 47)) (strs [strOf lt7]) := hdep 43 _ 47 rfl rfl (by kernel_rfl)
      have e1 : Reads w' w'.heap.size (a.eval (.tmp 50)) (strs [strOf lt7]) := hdep 46 _ 50 rfl rfl (by kernel_rfl)
      refine ⟨#[a.eval (.tmp 47), a.eval (.tmp 50)], w', (by simp only [execOp, resolve, List.map_toArray, List.map_cons, List.map_nil]; kernel_rfl), (sameTexts_any _ _ _ _ _ w' e0 e1).mono ?_⟩
      rintro e w2 ⟨rfl, nq, rfl⟩
      have hb2 := below_drewN (Below.refl w'.heap.size w') nq
      exact ⟨_, rfl, hC.step hb2, by rw [decide_eq_true rfl]; rfl, fun _ _ h => RW.below h hb2⟩
    · refine Inv.StepW.of_run rfl (fun _ _ _ => rfl) ⟨fun a w' hC hdep hfix => ?_⟩
      have e0 : a.eval (.tmp 41) = .bool true := hdep 37 _ 41 rfl rfl (by kernel_rfl)
      have e1 : a.eval (.tmp 51) = .bool true := hdep 47 _ 51 rfl rfl (by kernel_rfl)
      refine ⟨.bool true, w', ?_, hC, rfl, fun _ _ h => h⟩
      simp only [execOp, List.map_toArray, List.map_cons, List.map_nil, e0, e1]
      kernel_rfl
    · refine Inv.StepW.of_run rfl (fun _ _ _ => rfl) ⟨fun a w' hC hdep hfix => ?_⟩
      refine ⟨a.eval (.tmp 52), w', rfl, hC, (hdep 48 _ 52 rfl rfl (by kernel_rfl) : RW (.boo true) (a.eval (.tmp 52)) w'), fun _ _ h => h⟩
  have hv0 : f 0 = .bool true := hR 49 _ 0 rfl rfl
  simp only [Inv.dsts, List.filterMap_cons, List.filterMap_nil, List.foldl_cons, List.foldl_nil, Act.put, List.setIfInBounds_toArray, List.set_cons_succ, List.set_cons_zero]
  rw [hv0]
  have HB := Lib.hid (below_step hb1 hC.1 hb1.size)
  clear hC hR hv0 HLT
  go_wp2
  go_ret
  exact ⟨rfl, HB.out⟩
end Go.Proofs.Ytadlimfpcfdgcaa
