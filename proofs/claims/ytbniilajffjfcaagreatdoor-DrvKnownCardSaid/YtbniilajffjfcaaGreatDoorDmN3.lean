/- Contracts of Parse, of naming and of its reference. -/
import Derived.Test.YtbniilajffjfcaaGreatDoorDmN2
import Derived.BigQuiet
import Derived.Deep.QuietTactic
import Derived.ChangeKeysEq
import Derived.Laws.Cover3
import Derived.Deep.MidRow
set_option linter.unusedVariables false
set_option linter.unusedSimpArgs false
namespace Go.Proofs.YtbniilajffjfcaaGreatDoor.Nam
open Go.RowKit

def headS (s : ByteArray) : ByteArray := s.extract 0 32
def tailS (s : ByteArray) : ByteArray := s.extract 33 s.size
def dashB (s : ByteArray) : Bool := decide (s.data.toList[32]? = some 45)
def okP (s : ByteArray) : Bool := decide (33 ≤ s.size) && dashB s && okL (headS s) && rightB (tailS s)
theorem dash_iff (s : ByteArray) (h : 32 < s.size) : dashB s = decide ((s[32].toNat : Int) = 45) := by
  have e : s.data.toList[32]? = some s[32] := List.getElem?_eq_getElem (l := s.data.toList) (by simpa using h)
  unfold dashB
  rw [e, decide_eq_decide]
  constructor
  · intro h'; rw [Option.some.inj h']; rfl
  · intro h'
    have : s[32] = 45 := UInt8.toNat_inj.1 (by simpa using (by omega : s[32].toNat = 45))
    rw [this]
theorem okP_len (s : ByteArray) (h : s.size < 33) : okP s = false := by simp [okP]; omega
theorem tail_size (s : ByteArray) : (tailS s).size = s.size - 33 := by simp [tailS]
theorem head_size (s : ByteArray) (h : 32 ≤ s.size) : (headS s).size = 32 := by simp [headS]; omega
theorem okP_33 (s : ByteArray) (h : s.size < 34) : okP s = false := by
  by_cases h3 : s.size < 33
  · exact okP_len s h3
  · have : rightB (tailS s) = false := right_false_of_len _ (by rw [tail_size]; omega)
    simp [okP, this]
theorem okP_dash (s : ByteArray) (h : dashB s = false) : okP s = false := by simp [okP, h]
theorem okP_head (s : ByteArray) (h : okL (headS s) = false) : okP s = false := by simp [okP, h]
theorem okP_tail (s : ByteArray) (h : rightB (tailS s) = false) : okP s = false := by simp [okP, h]
theorem okP_yes (s : ByteArray) (h : okP s = true) : 33 ≤ s.size ∧ dashB s = true ∧ okL (headS s) = true ∧ rightB (tailS s) = true := by
  simp [okP] at h
  exact ⟨h.1.1.1, h.1.1.2, h.1.2, h.2⟩
theorem info20' (d : Nat → Nat) : (Tryz.prog.info? 74).map (·.size) = some (digA d 20).size := by rw [digA_size]; exact info20
theorem z20_size (d : Nat → Nat) : (#[Value.int IntKind.u8 0, Value.int IntKind.u8 0, Value.int IntKind.u8 0, Value.int IntKind.u8 0, Value.int IntKind.u8 0, Value.int IntKind.u8 0, Value.int IntKind.u8 0, Value.int IntKind.u8 0, Value.int IntKind.u8 0, Value.int IntKind.u8 0, Value.int IntKind.u8 0, Value.int IntKind.u8 0, Value.int IntKind.u8 0, Value.int IntKind.u8 0, Value.int IntKind.u8 0, Value.int IntKind.u8 0, Value.int IntKind.u8 0, Value.int IntKind.u8 0, Value.int IntKind.u8 0, Value.int IntKind.u8 0] : Array Value).size = (digA d 20).size := by rw [digA_size]; rfl

theorem bytes_is (b : Bool) (s : ByteArray) (w : World) (hs : s.size ≤ maxLen) (h : okL s = b) :
    Calls Tryz.prog 48 #[.string s] w fun e w' => e = .returned (.tuple #[.agg (digA (outD s) 20), .bool b]) ∧ Below w.heap.size w w' := h ▸ bytes_any s w hs
theorem refBytes_is (b : Bool) (s : ByteArray) (w : World) (hs : s.size ≤ maxLen) (h : okL s = b) :
    Calls Tryz.prog 68 #[.string s] w fun e w' => e = .returned (.tuple #[.agg (digA (outD s) 20), .bool b]) ∧ Below w.heap.size w w' := h ▸ refBytes_any s w hs

theorem below_store {B : Nat} {W w2 : World} (h : Below B W w2) (o : Obj) (cs : Array Value) (hB : B ≤ w2.heap.size) : Below B W ((w2.alloc o).setRow w2.heap.size cs) :=
  below_setRow (h.alloc hB o) hB cs

set_option maxRecDepth 100000 in
set_option maxHeartbeats 400000 in
theorem parse_short (s : ByteArray) (w : World) (hs : s.size ≤ maxLen) (h : s.size < 33) :
    Calls Tryz.prog 24 #[.string s] w fun e w' => e = .returned (.tuple #[.string ⟨#[]⟩, .string ⟨#[]⟩, .int .i64 90]) ∧ Below w.heap.size w w' := by
  unfold maxLen at hs
  go_enter Tryz.func24, Tryz.ntmps24
  go_wp2_with fail
  go_ret3
  exact ⟨rfl, Below.refl _ _⟩
set_option maxRecDepth 100000 in
set_option maxHeartbeats 400000 in
theorem parse_dash (s : ByteArray) (w : World) (hs : s.size ≤ maxLen) (h : 33 ≤ s.size) (hd : dashB s = false) :
    Calls Tryz.prog 24 #[.string s] w fun e w' => e = .returned (.tuple #[.string ⟨#[]⟩, .string ⟨#[]⟩, .int .i64 90]) ∧ Below w.heap.size w w' := by
  unfold maxLen at hs
  have hdl : decide ((s.size : Int) < 33) = false := by simp; omega
  have g : 32 < s.size := by omega
  have hb : ((s[32].toNat : Int) != 45) = true := by rw [dash_iff s g] at hd; rw [bne_iff_ne]; simpa using hd
  go_enter Tryz.func24, Tryz.ntmps24
  go_wp2_with fail
  go_ret3
  exact ⟨rfl, Below.refl _ _⟩
set_option maxRecDepth 100000 in
set_option maxHeartbeats 400000 in
theorem parse_head (s : ByteArray) (w : World) (hs : s.size ≤ maxLen) (h : 33 ≤ s.size) (hd : dashB s = true) (hh : okL (headS s) = false) :
    Calls Tryz.prog 24 #[.string s] w fun e w' => e = .returned (.tuple #[.string ⟨#[]⟩, .string ⟨#[]⟩, .int .i64 90]) ∧ Below w.heap.size w w' := by
  have HH := Lib.hid hh
  have HHS := Lib.hid (show (headS s).size ≤ maxLen by rw [head_size s (by omega)]; decide)
  unfold maxLen at hs
  have hdl : decide ((s.size : Int) < 33) = false := by simp; omega
  have g : 32 < s.size := by omega
  have hb : ((s[32].toNat : Int) != 45) = false := by rw [dash_iff s g] at hd; simpa using hd
  clear hh hd
  go_enter Tryz.func24, Tryz.ntmps24
  go_wp2_with fail
  go_quiet (fail)
  have hb0 : Below w.heap.size w (w.drewN nq) := below_drewN (Below.refl _ _) nq
  go_wp2_with (first | (go_at_call 48; refine (bytes_is false (headS s) _ HHS.out HH.out).mono ?_; rintro e w2 ⟨rfl, hb2⟩) | (refine wpList_store_row rfl 74 _ _ rfl _ (digA (outD (headS s)) 20) rfl rfl 74 _ (heap_alloc_new _ _) (info20' _) (z20_size _) (digA_ok _ _) ?_))
  go_ret3
  exact ⟨rfl, below_store (hb0.trans hb2) _ _ hb2.size⟩
set_option maxRecDepth 100000 in
set_option maxHeartbeats 400000 in
theorem parse_tail_false (s : ByteArray) (w : World) (hs : s.size ≤ maxLen) (h : 33 ≤ s.size) (hd : dashB s = true) (hh : okL (headS s) = true) (ht : rightB (tailS s) = false) :
    Calls Tryz.prog 24 #[.string s] w fun e w' => e = .returned (.tuple #[.string ⟨#[]⟩, .string ⟨#[]⟩, .int .i64 90]) ∧ Below w.heap.size w w' := by
  have HH := Lib.hid hh
  have HT := Lib.hid ht
  have HHS := Lib.hid (show (headS s).size ≤ maxLen by rw [head_size s (by omega)]; decide)
  have HTS := Lib.hid (show (tailS s).size ≤ maxLen by rw [tail_size]; omega)
  unfold maxLen at hs
  have hdl : decide ((s.size : Int) < 33) = false := by simp; omega
  have g : 32 < s.size := by omega
  have hb : ((s[32].toNat : Int) != 45) = false := by rw [dash_iff s g] at hd; simpa using hd
  clear hh hd ht
  go_enter Tryz.func24, Tryz.ntmps24
  go_wp2_with fail
  go_quiet (fail)
  have hb0 : Below w.heap.size w (w.drewN nq) := below_drewN (Below.refl _ _) nq
  go_wp2_with fail
  refine (bytes_is true (headS s) _ HHS.out HH.out).mono ?_
  rintro e w2 ⟨rfl, hb2⟩
  go_wp2_with (refine wpList_store_row rfl 74 _ _ rfl _ (digA (outD (headS s)) 20) rfl rfl 74 _ (heap_alloc_new _ _) (info20' _) (z20_size _) (digA_ok _ _) ?_)
  refine (right_is _ (tailS s) _ HTS.out HT.out).mono ?_
  rintro e w' ⟨rfl, rfl⟩
  go_wp2_with fail
  go_ret3
  exact ⟨rfl, below_store (hb0.trans hb2) _ _ hb2.size⟩
set_option maxRecDepth 100000 in
set_option maxHeartbeats 400000 in
theorem parse_tail_true (s : ByteArray) (w : World) (hs : s.size ≤ maxLen) (h : 33 ≤ s.size) (hd : dashB s = true) (hh : okL (headS s) = true) (ht : rightB (tailS s) = true) :
    Calls Tryz.prog 24 #[.string s] w fun e w' => e = .returned (.tuple #[.string (headS s), .string (tailS s), .int .i64 0]) ∧ Below w.heap.size w w' := by
  have HH := Lib.hid hh
  have HT := Lib.hid ht
  have HHS := Lib.hid (show (headS s).size ≤ maxLen by rw [head_size s (by omega)]; decide)
  have HTS := Lib.hid (show (tailS s).size ≤ maxLen by rw [tail_size]; omega)
  unfold maxLen at hs
  have hdl : decide ((s.size : Int) < 33) = false := by simp; omega
  have g : 32 < s.size := by omega
  have hb : ((s[32].toNat : Int) != 45) = false := by rw [dash_iff s g] at hd; simpa using hd
  clear hh hd ht
  go_enter Tryz.func24, Tryz.ntmps24
  go_wp2_with fail
  go_quiet (fail)
  have hb0 : Below w.heap.size w (w.drewN nq) := below_drewN (Below.refl _ _) nq
  go_wp2_with fail
  refine (bytes_is true (headS s) _ HHS.out HH.out).mono ?_
  rintro e w2 ⟨rfl, hb2⟩
  go_wp2_with (refine wpList_store_row rfl 74 _ _ rfl _ (digA (outD (headS s)) 20) rfl rfl 74 _ (heap_alloc_new _ _) (info20' _) (z20_size _) (digA_ok _ _) ?_)
  refine (right_is _ (tailS s) _ HTS.out HT.out).mono ?_
  rintro e w' ⟨rfl, rfl⟩
  go_wp2_with fail
  go_ret3
  exact ⟨rfl, below_store (hb0.trans hb2) _ _ hb2.size⟩
theorem parse_no (s : ByteArray) (w : World) (hs : s.size ≤ maxLen) (h : okP s = false) :
    Calls Tryz.prog 24 #[.string s] w fun e w' => e = .returned (.tuple #[.string ⟨#[]⟩, .string ⟨#[]⟩, .int .i64 90]) ∧ Below w.heap.size w w' := by
  by_cases h33 : s.size < 33
  · exact parse_short s w hs h33
  · cases hd : dashB s
    · exact parse_dash s w hs (by omega) hd
    · cases hh : okL (headS s)
      · exact parse_head s w hs (by omega) hd hh
      · cases ht : rightB (tailS s)
        · exact parse_tail_false s w hs (by omega) hd hh ht
        · simp [okP, hd, hh, ht] at h; omega
theorem parse_yes (s : ByteArray) (w : World) (hs : s.size ≤ maxLen) (h : okP s = true) :
    Calls Tryz.prog 24 #[.string s] w fun e w' => e = .returned (.tuple #[.string (headS s), .string (tailS s), .int .i64 0]) ∧ Below w.heap.size w w' := by
  obtain ⟨h1, h2, h3, h4⟩ := okP_yes s h
  exact parse_tail_true s w hs h1 h2 h3 h4

set_option maxRecDepth 100000 in
set_option maxHeartbeats 400000 in
theorem refParse_short (s : ByteArray) (w : World) (hs : s.size ≤ maxLen) (h : s.size < 34) :
    Calls Tryz.prog 41 #[.string s] w fun e w' => e = .returned (.tuple #[.string ⟨#[]⟩, .string ⟨#[]⟩, .int .i64 90]) ∧ Below w.heap.size w w' := by
  unfold maxLen at hs
  go_enter Tryz.func41, Tryz.ntmps41
  go_wp2_with fail
  go_ret3
  exact ⟨rfl, Below.refl _ _⟩
set_option maxRecDepth 100000 in
set_option maxHeartbeats 400000 in
theorem refParse_dash (s : ByteArray) (w : World) (hs : s.size ≤ maxLen) (h : 34 ≤ s.size) (hd : dashB s = false) :
    Calls Tryz.prog 41 #[.string s] w fun e w' => e = .returned (.tuple #[.string ⟨#[]⟩, .string ⟨#[]⟩, .int .i64 90]) ∧ Below w.heap.size w w' := by
  unfold maxLen at hs
  have hdl : decide ((s.size : Int) < 34) = false := by simp; omega
  have g : 32 < s.size := by omega
  have hb : ((s[32].toNat : Int) != 45) = true := by rw [dash_iff s g] at hd; rw [bne_iff_ne]; simpa using hd
  go_enter Tryz.func41, Tryz.ntmps41
  go_wp2_with fail
  go_ret3
  exact ⟨rfl, Below.refl _ _⟩
set_option maxRecDepth 100000 in
set_option maxHeartbeats 400000 in
theorem refParse_tail (s : ByteArray) (w : World) (hs : s.size ≤ maxLen) (h : 34 ≤ s.size) (hd : dashB s = true) (ht : rightB (tailS s) = false) :
    Calls Tryz.prog 41 #[.string s] w fun e w' => e = .returned (.tuple #[.string ⟨#[]⟩, .string ⟨#[]⟩, .int .i64 90]) ∧ Below w.heap.size w w' := by
  have HT := Lib.hid ht
  have HTS := Lib.hid (show (tailS s).size ≤ maxLen by rw [tail_size]; omega)
  unfold maxLen at hs
  have hdl : decide ((s.size : Int) < 34) = false := by simp; omega
  have g : 32 < s.size := by omega
  have hb : ((s[32].toNat : Int) != 45) = false := by rw [dash_iff s g] at hd; simpa using hd
  clear hd ht
  go_enter Tryz.func41, Tryz.ntmps41
  go_wp2_with (first | (go_at_call 40; refine (refRight_is _ (tailS s) _ HTS.out HT.out).mono ?_; rintro e w' ⟨rfl, rfl⟩))
  go_ret3
  exact ⟨rfl, Below.refl _ _⟩
set_option maxRecDepth 100000 in
set_option maxHeartbeats 400000 in
theorem refParse_head_false (s : ByteArray) (w : World) (hs : s.size ≤ maxLen) (h : 34 ≤ s.size) (hd : dashB s = true) (ht : rightB (tailS s) = true) (hh : okL (headS s) = false) :
    Calls Tryz.prog 41 #[.string s] w fun e w' => e = .returned (.tuple #[.string ⟨#[]⟩, .string ⟨#[]⟩, .int .i64 90]) ∧ Below w.heap.size w w' := by
  have HH := Lib.hid hh
  have HT := Lib.hid ht
  have HHS := Lib.hid (show (headS s).size ≤ maxLen by rw [head_size s (by omega)]; decide)
  have HTS := Lib.hid (show (tailS s).size ≤ maxLen by rw [tail_size]; omega)
  unfold maxLen at hs
  have hdl : decide ((s.size : Int) < 34) = false := by simp; omega
  have g : 32 < s.size := by omega
  have hb : ((s[32].toNat : Int) != 45) = false := by rw [dash_iff s g] at hd; simpa using hd
  clear hh hd ht
  go_enter Tryz.func41, Tryz.ntmps41
  go_wp2_with (first | (go_at_call 40; refine (refRight_is _ (tailS s) _ HTS.out HT.out).mono ?_; rintro e w' ⟨rfl, rfl⟩) | (go_at_call 68; refine (refBytes_is false (headS s) _ HHS.out HH.out).mono ?_; rintro e w2 ⟨rfl, hb2⟩) | (refine wpList_store_row rfl 74 _ _ rfl _ (digA (outD (headS s)) 20) rfl rfl 74 _ (heap_alloc_new _ _) (info20' _) (z20_size _) (digA_ok _ _) ?_))
  go_ret3
  exact ⟨rfl, below_store hb2 _ _ hb2.size⟩
set_option maxRecDepth 100000 in
set_option maxHeartbeats 400000 in
theorem refParse_head_true (s : ByteArray) (w : World) (hs : s.size ≤ maxLen) (h : 34 ≤ s.size) (hd : dashB s = true) (ht : rightB (tailS s) = true) (hh : okL (headS s) = true) :
    Calls Tryz.prog 41 #[.string s] w fun e w' => e = .returned (.tuple #[.string (headS s), .string (tailS s), .int .i64 0]) ∧ Below w.heap.size w w' := by
  have HH := Lib.hid hh
  have HT := Lib.hid ht
  have HHS := Lib.hid (show (headS s).size ≤ maxLen by rw [head_size s (by omega)]; decide)
  have HTS := Lib.hid (show (tailS s).size ≤ maxLen by rw [tail_size]; omega)
  unfold maxLen at hs
  have hdl : decide ((s.size : Int) < 34) = false := by simp; omega
  have g : 32 < s.size := by omega
  have hb : ((s[32].toNat : Int) != 45) = false := by rw [dash_iff s g] at hd; simpa using hd
  clear hh hd ht
  go_enter Tryz.func41, Tryz.ntmps41
  go_wp2_with (first | (go_at_call 40; refine (refRight_is _ (tailS s) _ HTS.out HT.out).mono ?_; rintro e w' ⟨rfl, rfl⟩) | (go_at_call 68; refine (refBytes_is true (headS s) _ HHS.out HH.out).mono ?_; rintro e w2 ⟨rfl, hb2⟩) | (refine wpList_store_row rfl 74 _ _ rfl _ (digA (outD (headS s)) 20) rfl rfl 74 _ (heap_alloc_new _ _) (info20' _) (z20_size _) (digA_ok _ _) ?_))
  go_quiet (fail)
  go_wp2
  go_ret3
  exact ⟨rfl, below_drewN (below_store hb2 _ _ hb2.size) _⟩
theorem refParse_no (s : ByteArray) (w : World) (hs : s.size ≤ maxLen) (h : okP s = false) :
    Calls Tryz.prog 41 #[.string s] w fun e w' => e = .returned (.tuple #[.string ⟨#[]⟩, .string ⟨#[]⟩, .int .i64 90]) ∧ Below w.heap.size w w' := by
  by_cases h34 : s.size < 34
  · exact refParse_short s w hs h34
  · cases hd : dashB s
    · exact refParse_dash s w hs (by omega) hd
    · cases ht : rightB (tailS s)
      · exact refParse_tail s w hs (by omega) hd ht
      · cases hh : okL (headS s)
        · exact refParse_head_false s w hs (by omega) hd ht hh
        · simp [okP, hd, hh, ht] at h; omega
theorem refParse_yes (s : ByteArray) (w : World) (hs : s.size ≤ maxLen) (h : okP s = true) :
    Calls Tryz.prog 41 #[.string s] w fun e w' => e = .returned (.tuple #[.string (headS s), .string (tailS s), .int .i64 0]) ∧ Below w.heap.size w w' := by
  obtain ⟨h1, h2, h3, h4⟩ := okP_yes s h
  have : 34 ≤ s.size := by
    rcases Nat.lt_or_ge s.size 34 with h5 | h5
    · rw [okP_33 s h5] at h; cases h
    · exact h5
  exact refParse_head_true s w hs this h2 h4 h3
end Go.Proofs.YtbniilajffjfcaaGreatDoor.Nam

/- Arrays of numbers, held against each other. -/
namespace Go.Proofs.YtbniilajffjfcaaGreatDoor.Nam
open Go.RowKit

def eqRun (P : Program) (d : Nat) (e : TypeId) (xs ys : Array Value) : List Nat → Sem Bool
  | [] => pure true
  | i :: l => do
    let a ← part e xs i
    let b ← part e ys i
    let r ← Op.equalIn d e a b
    if (!r) = true then pure false else eqRun P d e xs ys l

theorem run_equalIn_array {P : Program} (w : World) (d n : Nat) (T e : TypeId) (xs ys : Array Value) (hT : P.underlying T = some (.array n e)) {i : TypeInfo} (hi : P.info? e = some i) (h1 : P.cellsOf e = 1) :
    (Op.equalIn (d + 1) T (.agg xs) (.agg ys)).run P w = (eqRun P d e xs ys (List.range' 0 n)).run P w := by
  simp only [Op.equalIn, Sem.run_bind, run_underlying hT, Result.andThen_ok, run_sizeOf w hi, h1, Nat.mul_one]
  rw [Std.Legacy.Range.forIn_eq_forIn_range']
  simp only [Std.Legacy.Range.size, Nat.sub_zero, Nat.add_sub_cancel, Nat.div_one]
  clear hT
  generalize List.range' 0 n = l
  induction l generalizing w with
  | nil => simp [eqRun]
  | cons j l ih =>
    simp only [List.forIn_cons, eqRun, Sem.run_bind, Sem.run_ite]
    generalize (part e xs j).run P w = r1
    cases r1 with
    | ok a w1 =>
      simp only [Result.andThen_ok]
      generalize (part e ys j).run P w1 = r2
      cases r2 with
      | ok b w2 =>
        simp only [Result.andThen_ok]
        generalize (Op.equalIn d e a b).run P w2 = r3
        cases r3 with
        | ok r w3 =>
          cases r
          · simp only [Result.andThen_ok, Bool.not_false, if_true, Sem.run_pure]
          · simp only [Result.andThen_ok, Bool.not_true, Bool.false_eq_true, if_false, Sem.run_pure]
            exact ih w3
        | halt x w3 => simp [Result.andThen]
      | halt x w2 => simp [Result.andThen]
    | halt x w1 => simp [Result.andThen]

theorem run_eqRun_int {P : Program} (w : World) (d : Nat) (e : TypeId) (k q : IntKind) (he : P.underlying e = some (.int q)) (f g : Nat → Int) (xs ys : Array Value) :
    ∀ l : List Nat, (∀ i ∈ l, xs[i]? = some (.int k (f i)) ∧ ys[i]? = some (.int k (g i))) → (eqRun P (d + 1) e xs ys l).run P w = .ok (l.all fun i => f i == g i) w
  | [], _ => by simp [eqRun]
  | i :: l, h => by
    have hp : P.plainKey e = true := by simp [Program.plainKey, he]
    obtain ⟨hx, hy⟩ := h i (by simp)
    simp only [eqRun, Sem.run_bind, run_part_plain w hp hx, run_part_plain w hp hy, Result.andThen_ok, run_equalIn_int w d e k q (f i) (g i) he, Sem.run_ite]
    rw [run_eqRun_int w d e k q he f g xs ys l fun j hj => h j (by simp [hj])]
    cases hfg : f i == g i <;> simp [hfg]

/-- Arrays of n numbers are the same just if all are. -/
theorem run_equal_ints {P : Program} (w : World) (d n : Nat) (T e : TypeId) (k q : IntKind) (f g : Nat → Int) (xs ys : Array Value) (hT : P.underlying T = some (.array n e)) (he : P.underlying e = some (.int q)) (h1 : P.cellsOf e = 1)
    (hx : ∀ i, i < n → xs[i]? = some (.int k (f i)) ∧ ys[i]? = some (.int k (g i))) :
    (Op.equalIn (d + 2) T (.agg xs) (.agg ys)).run P w = .ok ((List.range n).all fun i => f i == g i) w := by
  obtain ⟨i, hi⟩ := info_of_underlying he
  rw [run_equalIn_array w (d + 1) n T e xs ys hT hi h1, run_eqRun_int w d e k q he f g xs ys _ (fun i hi => hx i (by simpa [List.mem_range'] using hi)), List.range_eq_range']

theorem cellsU8 : Tryz.prog.cellsOf 5 = 1 := by kernel_rfl
def sameB (f d : Nat → Nat) : Bool := (List.range 20).all fun i => f i == d i
theorem run_equal_digA (w : World) (f g : Nat → Nat) : (Op.equalIn 10000 74 (.agg (digA f 20)) (.agg (digA g 20))).run Tryz.prog w = .ok (sameB f g) w := by
  unfold sameB
  rw [run_equal_ints w 9998 20 74 5 .u8 .u8 (fun i => (f i : Int)) (fun i => (g i : Int)) _ _ Tryz.underlying74 Tryz.underlying5 cellsU8 fun i hi => ⟨digA_get _ _ _ hi, digA_get _ _ _ hi⟩]
  congr 2
  funext i
  rw [Bool.eq_iff_iff]
  simp
  omega
end Go.Proofs.YtbniilajffjfcaaGreatDoor.Nam

/- Contracts of Fits, of naming and of its reference. -/
namespace Go.Proofs.YtbniilajffjfcaaGreatDoor.Nam
open Go.RowKit

theorem quiet_load {P : Program} {C : World → Prop} {a : Act} {o : Oper} {K : Act → Prop} (ty : TypeId) (x : Operand) (ho : o.op = .load ty x) (cs : Array Value)
    (h : ∀ w, C w → (Instr.loadAt ty (a.eval x)).run P w = .ok (.agg cs) w) (hk : K (a.put o.dst (.agg cs))) : o.quiet P a C K :=
  ⟨_, fun w hw => by
    unfold Oper.quietAt execOp
    simp only [ho, Sem.run_bind, h w hw, Result.andThen_ok, Sem.run_pure]
    exact ⟨rfl, rfl⟩, hk⟩

theorem wpList_load_row_g {P : Program} {ops : Array Oper} {rest : List Oper} {o : Oper} {a : Act} {w : World} {Q : Exit → Act → World → Prop} (hw : Region.wanted o (yielded ops a.tmps) = true) (ty : TypeId) (x : Operand) (ho : o.op = .load ty x)
    (g : Nat) (hx : a.eval x = .pointer (some ⟨g, 0, none⟩)) (t : TypeId) (cs : Array Value) (fr : Nat × Nat) (d : TypeDesc) (hg : w.heap[g]? = some (.cells cs t fr))
    (hu : P.underlying ty = some d) (hd : (match d with | .struct _ | .array _ _ => true | _ => false) = true) (hi : (P.info? ty).map (·.size) = some cs.size)
    (h : wpList P ops Q rest (a.put o.dst (.agg cs)) w) : wpList P ops Q (o :: rest) a w :=
  BigFrame.wpList_want hw fun _ hK => wp_load_row ty x ho g hx t cs fr d hg hu hd hi (hK _ _ h)

def fitB (s : ByteArray) (d : Nat → Nat) : Bool := okP s && sameB (outD (headS s)) d
theorem rows_store (W w3 : World) (B : Nat) (Z : Obj) (X : Array Value) (c : Array Value) (t T : TypeId) (hb : Below W.heap.size W w3) (hZ : ∃ old, Z = .cells old T (0, 0)) (hB : B < w3.heap.size) (hc : w3.heap[B]? = some (.cells c t (0, 0))) :
    ∃ w4, w4 = (w3.alloc Z).setRow w3.heap.size X ∧ w4.heap[w3.heap.size]? = some (.cells X T (0, 0)) ∧ w4.heap[B]? = some (.cells c t (0, 0)) ∧ Below W.heap.size W w4 := by
  obtain ⟨old, rfl⟩ := hZ
  refine ⟨_, rfl, setRow_heap _ _ _ _ _ _ (heap_alloc_new _ _), ?_, below_store hb _ _ hb.size⟩
  rw [setRow_other _ _ _ _ (by omega)]
  exact (heap_alloc_old _ _ hB).trans hc
theorem range_of_row (w : World) (g : Nat) (cs : Array Value) (t : TypeId) (fr : Nat × Nat) (l : List Value) (hg : w.heap[g]? = some (.cells cs t fr)) (hl : ∀ (j : Nat) (v : Value), l[j]? = some v → cs[j]? = some v) : w.rangeAt g 0 l := fun j v hv => by
  rw [cell_of_row w g (0 + j) cs t fr hg, Nat.zero_add]
  exact hl j v hv
theorem cells_pre (d : Nat → Nat) (m n : Nat) (h : m ≤ n) (j : Nat) (v : Value) (hv : (cells d m)[j]? = some v) : (digA d n)[j]? = some v := by
  have hj : j < m := by
    have := (List.getElem?_eq_some_iff.1 hv).1
    simpa [cells] using this
  rw [cells_get d m j hj] at hv
  rw [digA_get d n j (by omega)]
  exact hv

/-! ### Letters and bytes are each other's -/
theorem letters_of_okL (s : ByteArray) (h : okL s = true) : s.data.toList = letters (numL (letV s) 32) 32 := by
  have h1 : s.size = 32 := by simp [okL] at h; exact h.1
  have h2 : ∀ c ∈ s.data.toList, 0 ≤ valI c := by
    have : s.data.toList.all (fun c => decide (0 ≤ valI c)) = true := by
      have h' := h
      unfold okL at h'
      rw [Bool.and_eq_true] at h'
      exact h'.2
    intro c hc
    have := List.all_eq_true.1 this c hc
    simpa using this
  apply List.ext_getElem?
  intro i
  by_cases hi : i < 32
  · have hs : i < s.data.toList.length := by rw [show s.data.toList.length = s.size from rfl]; omega
    have e1 : s.data.toList[i]? = some (s.data.toList.getD i 0) := by simp [List.getD, List.getElem?_eq_getElem hs]
    have hm : s.data.toList.getD i 0 ∈ s.data.toList := List.mem_of_getElem? e1
    have hv := h2 _ hm
    have e2 : (letters (numL (letV s) 32) 32)[i]? = some (abc.getD (letV s i) 0) := by
      simp [letters, hi, numL_letNo (letV s) (letV_lt s) i hi]
    rw [e1, e2]
    congr 1
    have hidx : Lib.indexByte abc (s.data.toList.getD i 0) = ((letV s i : Nat) : Int) := by
      unfold letV valI at *
      omega
    obtain ⟨h3, _⟩ := Lib.indexByte_some hidx
    simp [List.getD, h3]
  · rw [List.getElem?_eq_none (by rw [show s.data.toList.length = s.size from rfl]; omega), List.getElem?_eq_none (by rw [letters_len]; omega)]
theorem abc_val : ∀ v : Fin 32, valI (abc.getD v.val 0) = (v.val : Int) := by decide +kernel
theorem okL_letS (d : Nat → Nat) : okL (letS d) = true := by
  have e : ∀ c ∈ letters (num d 20) 32, 0 ≤ valI c := by
    intro c hc
    simp [letters] at hc
    obtain ⟨j, _, rfl⟩ := hc
    have := abc_val ⟨_, letNo_lt (num d 20) j⟩
    simp [List.getD] at this
    rw [this]
    exact Int.natCast_nonneg _
  have hz := letS_size d
  unfold okL
  rw [hz]
  simp only [decide_true, Bool.true_and, List.all_eq_true]
  intro c hc
  exact decide_eq_true (e c hc)
theorem letV_letS (d : Nat → Nat) (i : Nat) (hi : i < 32) : letV (letS d) i = letNo (num d 20) i := by
  unfold letV
  have : (letS d).data.toList.getD i 0 = abc.getD (letNo (num d 20) i) 0 := by
    show (letters (num d 20) 32).getD i 0 = _
    simp [letters, List.getD, hi]
  rw [this, abc_val ⟨_, letNo_lt (num d 20) i⟩]
  simp
theorem preNo_num (M k : Nat) (hM : M < 2 ^ 160) (hk : k ≤ 32) : numL (letNo M) k = M / 2 ^ (160 - 5 * k) := by
  induction k with
  | zero => simp only [numL]; rw [Nat.div_eq_of_lt (by simpa using hM)]
  | succ k ih =>
    show numL (letNo M) k * 32 + letNo M k = _
    rw [ih (by omega), letNo, show 160 - 5 * k = (155 - 5 * k) + 5 from by omega, Nat.pow_add, ← Nat.div_div_eq_div_mul, show 160 - 5 * (k + 1) = 155 - 5 * k from by omega]
    omega
theorem num160 (d : Nat → Nat) (hd : ∀ i, d i < 256) : num d 20 < 2 ^ 160 := Nat.lt_of_lt_of_le (num_lt d hd 20) (by rw [show (256 : Nat) ^ 20 = 2 ^ 160 from by decide +kernel]; exact Nat.le_refl _)
theorem outD_letS (d : Nat → Nat) (hd : ∀ i, d i < 256) (i : Nat) (hi : i < 20) : outD (letS d) i = d i := by
  rw [outD_yes _ (okL_letS d), numL_congr _ (letNo (num d 20)) 32 (fun i hi => letV_letS d i hi), preNo_num _ 32 (num160 d hd) (Nat.le_refl _), show 160 - 5 * 32 = 0 from rfl, Nat.pow_zero, Nat.div_one]
  exact num_byteNo d hd i hi
theorem num_congr (d e : Nat → Nat) (k : Nat) (h : ∀ i, i < k → d i = e i) : num d k = num e k := by
  induction k with
  | zero => rfl
  | succ k ih => simp only [num]; rw [ih fun i hi => h i (by omega), h k (by omega)]
theorem num_bytes (M k : Nat) (hM : M < 2 ^ 160) (hk : k ≤ 20) : num (byteNo M) k = M / 2 ^ (160 - 8 * k) := by
  induction k with
  | zero => simp only [num]; rw [Nat.div_eq_of_lt (by simpa using hM)]
  | succ k ih =>
    show num (byteNo M) k * 256 + byteNo M k = _
    rw [ih (by omega), byteNo, show 160 - 8 * k = (152 - 8 * k) + 8 from by omega, Nat.pow_add, ← Nat.div_div_eq_div_mul, show 160 - 8 * (k + 1) = 152 - 8 * k from by omega]
    omega
/-- The letters are a digest's just if the bytes are. -/
theorem fit_iff (s : ByteArray) (d : Nat → Nat) (hd : ∀ i, d i < 256) (h : okL s = true) : (s.toList == (letS d).toList) = sameB (outD s) d := by
  rw [Bool.eq_iff_iff, beq_iff_eq, ByteArray.toList_eq, ByteArray.toList_eq]
  constructor
  · intro e
    have : s = letS d := str_ext e
    subst this
    rw [sameB, List.all_eq_true]
    intro i hi
    rw [outD_letS d hd i (by simpa using hi)]
    simp
  · intro e
    rw [letters_of_okL s h]
    have hM := numS_lt s
    unfold numS at hM
    have e2 : num d 20 = num (outD s) 20 := num_congr _ _ _ fun i hi => by
      rw [sameB, List.all_eq_true] at e
      have := e i (by simpa using hi)
      exact (beq_iff_eq.1 this).symm
    have e4 : ∀ M : Nat, M / 2 ^ (160 - 8 * 20) = M := fun M => by rw [show 160 - 8 * 20 = 0 from rfl, Nat.pow_zero, Nat.div_one]
    have e3 : num d 20 = numL (letV s) 32 := e2.trans (by
      rw [outD_yes s h]
      exact (num_bytes _ 20 hM (Nat.le_refl _)).trans (e4 _))
    exact (congrArg (fun M => letters M 32) e3).symm
end Go.Proofs.YtbniilajffjfcaaGreatDoor.Nam

/- Contract of the law's works. -/
namespace Go.Proofs.YtbniilajffjfcaaGreatDoor.Nam
open Go.RowKit

theorem zeros32 : #[Value.int IntKind.u8 0, Value.int IntKind.u8 0, Value.int IntKind.u8 0, Value.int IntKind.u8 0, Value.int IntKind.u8 0, Value.int IntKind.u8 0, Value.int IntKind.u8 0, Value.int IntKind.u8 0, Value.int IntKind.u8 0, Value.int IntKind.u8 0, Value.int IntKind.u8 0, Value.int IntKind.u8 0, Value.int IntKind.u8 0, Value.int IntKind.u8 0, Value.int IntKind.u8 0, Value.int IntKind.u8 0, Value.int IntKind.u8 0, Value.int IntKind.u8 0, Value.int IntKind.u8 0, Value.int IntKind.u8 0, Value.int IntKind.u8 0, Value.int IntKind.u8 0, Value.int IntKind.u8 0, Value.int IntKind.u8 0, Value.int IntKind.u8 0, Value.int IntKind.u8 0, Value.int IntKind.u8 0, Value.int IntKind.u8 0, Value.int IntKind.u8 0, Value.int IntKind.u8 0, Value.int IntKind.u8 0, Value.int IntKind.u8 0] = digA (fun _ => 0) 32 := by rfl
def zD : Nat → Nat := fun _ => 0
def eD : Nat → Nat := fun i => if i = 0 then 248 else 0
theorem zD_lt : ∀ i, zD i < 256 := fun i => by simp [zD]
theorem eD_lt : ∀ i, eD i < 256 := fun i => by unfold eD; split <;> omega
theorem eD_set : (digA zD 32).setIfInBounds 0 (.int .u8 248) = digA eD 32 := by rfl

theorem data_app (a b : ByteArray) : (a ++ b).data.toList = a.data.toList ++ b.data.toList := by rw [ByteArray.data_append, Array.toList_append]
theorem data_ext (a : ByteArray) (i j : Nat) : (a.extract i j).data.toList = (a.data.toList.drop i).take (j - i) := by
  rw [ByteArray.data_extract, Array.toList_extract, List.extract_eq_take_drop]
theorem letS_len (d : Nat → Nat) : (letS d).data.toList.length = 32 := letters_len _ _
theorem headS_nameS (d : Nat → Nat) (s : ByteArray) : headS (nameS d s) = letS d := by
  apply str_ext
  unfold headS nameS
  rw [data_ext, data_app, data_app, List.drop_zero, Nat.sub_zero, List.append_assoc, List.take_append_of_le_length (by rw [letS_len]; exact Nat.le_refl _), List.take_of_length_le (by rw [letS_len]; exact Nat.le_refl _)]
theorem nameS_size (d : Nat → Nat) (s : ByteArray) : (nameS d s).size = 33 + s.size := by
  have h1 := letS_size d
  unfold nameS
  rw [ByteArray.size_append, ByteArray.size_append, h1]
  rfl
theorem tailS_nameS (d : Nat → Nat) (s : ByteArray) : tailS (nameS d s) = s := by
  have hz := nameS_size d s
  apply str_ext
  unfold tailS
  rw [hz, data_ext]
  unfold nameS
  rw [data_app, data_app]
  rw [List.drop_append_of_le_length (by rw [List.length_append, letS_len]; exact Nat.le_refl _), List.drop_of_length_le (by rw [List.length_append, letS_len]; exact Nat.le_refl _), List.nil_append, List.take_of_length_le]
  rw [show s.data.toList.length = s.size from rfl]; omega
theorem dash_nameS (d : Nat → Nat) (s : ByteArray) : dashB (nameS d s) = true := by
  have : (nameS d s).data.toList[32]? = some 45 := by
    unfold nameS
    rw [data_app, data_app, List.append_assoc, List.getElem?_append_right (by rw [letS_len]; exact Nat.le_refl _), letS_len]
    rfl
  simp [dashB, this]
theorem okP_nameS (d : Nat → Nat) (s : ByteArray) (h : rightB s = true) : okP (nameS d s) = true := by
  simp [okP, headS_nameS, tailS_nameS, dash_nameS, okL_letS, h, nameS_size]
theorem fitB_nameS (d x : Nat → Nat) (s : ByteArray) (h : rightB s = true) : fitB (nameS d s) x = sameB (outD (letS d)) x := by
  rw [fitB, okP_nameS d s h, headS_nameS, Bool.true_and]

def gcc : ByteArray := ⟨#[103, 99, 99, 45, 49, 46, 50]⟩
def eee : ByteArray := ⟨#[101, 101, 101, 101, 101, 101, 101, 101, 101, 101, 101, 101, 101, 101, 101, 101, 101, 101, 101, 101, 101, 101, 101, 101, 101, 101, 101, 101, 101, 101, 101, 101, 45, 97]⟩
theorem gcc_right : rightB gcc = true := by decide +kernel
theorem eee_no : okP eee = false := by decide +kernel
theorem dot_no : rightB ⟨#[46, 97]⟩ = false := by decide +kernel
theorem blank_no : rightB ⟨#[97, 32, 98]⟩ = false := by decide +kernel
theorem fit_gcc : fitB (nameS zD gcc) zD = true := by decide +kernel
theorem letZ : (letS zD).toList = [48, 48, 48, 48, 48, 48, 48, 48, 48, 48, 48, 48, 48, 48, 48, 48, 48, 48, 48, 48, 48, 48, 48, 48, 48, 48, 48, 48, 48, 48, 48, 48] := by decide +kernel

theorem nameS_max (d : Nat → Nat) (s : ByteArray) (h : rightB s = true) : (nameS d s).size ≤ maxLen := by
  have := right_len h
  rw [nameS_size]
  unfold maxLen
  omega
theorem parse_name (d : Nat → Nat) (s : ByteArray) (w : World) (h : rightB s = true) :
    Calls Tryz.prog 24 #[.string (nameS d s)] w fun e w' => e = .returned (.tuple #[.string (letS d), .string s, .int .i64 0]) ∧ Below w.heap.size w w' := by
  have := parse_yes (nameS d s) w (nameS_max d s h) (okP_nameS d s h)
  rw [headS_nameS, tailS_nameS] at this
  exact this
theorem wb1 : ((letS zD).toList == [48, 48, 48, 48, 48, 48, 48, 48, 48, 48, 48, 48, 48, 48, 48, 48, 48, 48, 48, 48, 48, 48, 48, 48, 48, 48, 48, 48, 48, 48, 48, 48]) = true := by decide +kernel
theorem wb2 : ((letS eD).toList == (ByteArray.mk #[122] ++ (letS zD).extract 1 (letS zD).size).toList) = true := by decide +kernel
theorem wb3 : ((nameS zD gcc).toList == (letS zD ++ ByteArray.mk #[45, 103, 99, 99, 45, 49, 46, 50]).toList) = true := by decide +kernel
theorem wb4 : (gcc.toList == [103, 99, 99, 45, 49, 46, 50]) = true := by decide +kernel

end Go.Proofs.YtbniilajffjfcaaGreatDoor.Nam
