/- Contracts of Parse, of naming and of its reference. -/
import Derived.Test.YtadlimfpcfdgcaaNmG
import Derived.BigQuiet
import Derived.Deep.QuietTactic
set_option linter.unusedVariables false
set_option linter.unusedSimpArgs false
namespace Go.Proofs.Ytadlimfpcfdgcaa.Nam
open Go.RowKit

def headS (s : ByteArray) : ByteArray := s.extract 0 32
def tailS (s : ByteArray) : ByteArray := s.extract 33 s.size
def dashB (s : ByteArray) : Bool := decide (s.data.toList[32]? = some 45)
def okP (s : ByteArray) : Bool := decide (33 ≤ s.size) && dashB s && okL (headS s) && rightB (tailS s)
theorem dash_iff (s : ByteArray) (h : 32 < s.size) : dashB s = decide ((s[32].toNat : Int) = 45) := by
  have e : s.data.toList[32]? = some s[32] := List.getElem?_eq_getElem (l := s.data.toList) (by simpa using h)
  unfold dashB
  rw [e, decide_eq_decide]
  constructor
  · intro h'; rw [Option.some.inj h']; rfl
  · intro h'
    have : s[32] = 45 := UInt8.toNat_inj.1 (by simpa using (by omega : s[32].toNat = 45))
    rw [this]
theorem okP_len (s : ByteArray) (h : s.size < 33) : okP s = false := by simp [okP]; omega
theorem tail_size (s : ByteArray) : (tailS s).size = s.size - 33 := by simp [tailS]
theorem head_size (s : ByteArray) (h : 32 ≤ s.size) : (headS s).size = 32 := by simp [headS]; omega
theorem okP_33 (s : ByteArray) (h : s.size < 34) : okP s = false := by
  by_cases h3 : s.size < 33
  · exact okP_len s h3
  · have : rightB (tailS s) = false := right_false_of_len _ (by rw [tail_size]; omega)
    simp [okP, this]
theorem okP_dash (s : ByteArray) (h : dashB s = false) : okP s = false := by simp [okP, h]
theorem okP_head (s : ByteArray) (h : okL (headS s) = false) : okP s = false := by simp [okP, h]
theorem okP_tail (s : ByteArray) (h : rightB (tailS s) = false) : okP s = false := by simp [okP, h]
theorem okP_yes (s : ByteArray) (h : okP s = true) : 33 ≤ s.size ∧ dashB s = true ∧ okL (headS s) = true ∧ rightB (tailS s) = true := by
  simp [okP] at h
  exact ⟨h.1.1.1, h.1.1.2, h.1.2, h.2⟩
theorem info20' (d : Nat → Nat) : (Try.prog.info? 53).map (·.size) = some (digA d 20).size := by rw [digA_size]; exact info20
theorem z20_size (d : Nat → Nat) : (#[Value.int IntKind.u8 0, Value.int IntKind.u8 0, Value.int IntKind.u8 0, Value.int IntKind.u8 0, Value.int IntKind.u8 0, Value.int IntKind.u8 0, Value.int IntKind.u8 0, Value.int IntKind.u8 0, Value.int IntKind.u8 0, Value.int IntKind.u8 0, Value.int IntKind.u8 0, Value.int IntKind.u8 0, Value.int IntKind.u8 0, Value.int IntKind.u8 0, Value.int IntKind.u8 0, Value.int IntKind.u8 0, Value.int IntKind.u8 0, Value.int IntKind.u8 0, Value.int IntKind.u8 0, Value.int IntKind.u8 0] : Array Value).size = (digA d 20).size := by rw [digA_size]; rfl

theorem bytes_is (b : Bool) (s : ByteArray) (w : World) (hs : s.size ≤ maxLen) (h : okL s = b) :
    Calls Try.prog 43 #[.string s] w fun e w' => e = .returned (.tuple #[.agg (digA (outD s) 20), .bool b]) ∧ Below w.heap.size w w' := h ▸ bytes_any s w hs
theorem refBytes_is (b : Bool) (s : ByteArray) (w : World) (hs : s.size ≤ maxLen) (h : okL s = b) :
    Calls Try.prog 19 #[.string s] w fun e w' => e = .returned (.tuple #[.agg (digA (outD s) 20), .bool b]) ∧ Below w.heap.size w w' := h ▸ refBytes_any s w hs

theorem below_store {B : Nat} {W w2 : World} (h : Below B W w2) (o : Obj) (cs : Array Value) (hB : B ≤ w2.heap.size) : Below B W ((w2.alloc o).setRow w2.heap.size cs) :=
  below_setRow (h.alloc hB o) hB cs

set_option maxRecDepth 100000 in
set_option maxHeartbeats 400000 in
theorem parse_short (s : ByteArray) (w : World) (hs : s.size ≤ maxLen) (h : s.size < 33) :
    Calls Try.prog 35 #[.string s] w fun e w' => e = .returned (.tuple #[.string ⟨#[]⟩, .string ⟨#[]⟩, .int .i64 90]) ∧ Below w.heap.size w w' := by
  unfold maxLen at hs
  go_enter Try.func35, Try.ntmps35
  go_wp2_with fail
  go_ret3
  exact ⟨rfl, Below.refl _ _⟩
set_option maxRecDepth 100000 in
set_option maxHeartbeats 400000 in
theorem parse_dash (s : ByteArray) (w : World) (hs : s.size ≤ maxLen) (h : 33 ≤ s.size) (hd : dashB s = false) :
    Calls Try.prog 35 #[.string s] w fun e w' => e = .returned (.tuple #[.string ⟨#[]⟩, .string ⟨#[]⟩, .int .i64 90]) ∧ Below w.heap.size w w' := by
  unfold maxLen at hs
  have hdl : decide ((s.size : Int) < 33) = false := by simp; omega
  have g : 32 < s.size := by omega
  have hb : ((s[32].toNat : Int) != 45) = true := by rw [dash_iff s g] at hd; rw [bne_iff_ne]; simpa using hd
  go_enter Try.func35, Try.ntmps35
  go_wp2_with fail
  go_ret3
  exact ⟨rfl, Below.refl _ _⟩
set_option maxRecDepth 100000 in
set_option maxHeartbeats 400000 in
theorem parse_head (s : ByteArray) (w : World) (hs : s.size ≤ maxLen) (h : 33 ≤ s.size) (hd : dashB s = true) (hh : okL (headS s) = false) :
    Calls Try.prog 35 #[.string s] w fun e w' => e = .returned (.tuple #[.string ⟨#[]⟩, .string ⟨#[]⟩, .int .i64 90]) ∧ Below w.heap.size w w' := by
  have HH := Lib.hid hh
  have HHS := Lib.hid (show (headS s).size ≤ maxLen by rw [head_size s (by omega)]; decide)
  unfold maxLen at hs
  have hdl : decide ((s.size : Int) < 33) = false := by simp; omega
  have g : 32 < s.size := by omega
  have hb : ((s[32].toNat : Int) != 45) = false := by rw [dash_iff s g] at hd; simpa using hd
  clear hh hd
  go_enter Try.func35, Try.ntmps35
  go_wp2_with fail
  go_quiet (fail)
  have hb0 : Below w.heap.size w (w.drewN nq) := below_drewN (Below.refl _ _) nq
  go_wp2_with (first | (go_at_call 43; refine (bytes_is false (headS s) _ HHS.out HH.out).mono ?_; rintro e w2 ⟨rfl, hb2⟩) | (refine wpList_store_row rfl 53 _ _ rfl _ (digA (outD (headS s)) 20) rfl rfl 53 _ (heap_alloc_new _ _) (info20' _) (z20_size _) (digA_ok _ _) ?_))
  go_ret3
  exact ⟨rfl, below_store (hb0.trans hb2) _ _ hb2.size⟩
set_option maxRecDepth 100000 in
set_option maxHeartbeats 400000 in
theorem parse_tail_false (s : ByteArray) (w : World) (hs : s.size ≤ maxLen) (h : 33 ≤ s.size) (hd : dashB s = true) (hh : okL (headS s) = true) (ht : rightB (tailS s) = false) :
    Calls Try.prog 35 #[.string s] w fun e w' => e = .returned (.tuple #[.string ⟨#[]⟩, .string ⟨#[]⟩, .int .i64 90]) ∧ Below w.heap.size w w' := by
  have HH := Lib.hid hh
  have HT := Lib.hid ht
  have HHS := Lib.hid (show (headS s).size ≤ maxLen by rw [head_size s (by omega)]; decide)
  have HTS := Lib.hid (show (tailS s).size ≤ maxLen by rw [tail_size]; omega)
  unfold maxLen at hs
  have hdl : decide ((s.size : Int) < 33) = false := by simp; omega
  have g : 32 < s.size := by omega
  have hb : ((s[32].toNat : Int) != 45) = false := by rw [dash_iff s g] at hd; simpa using hd
  clear hh hd ht
  go_enter Try.func35, Try.ntmps35
  go_wp2_with fail
  go_quiet (fail)
  have hb0 : Below w.heap.size w (w.drewN nq) := below_drewN (Below.refl _ _) nq
  go_wp2_with fail
  refine (bytes_is true (headS s) _ HHS.out HH.out).mono ?_
  rintro e w2 ⟨rfl, hb2⟩
  go_wp2_with (refine wpList_store_row rfl 53 _ _ rfl _ (digA (outD (headS s)) 20) rfl rfl 53 _ (heap_alloc_new _ _) (info20' _) (z20_size _) (digA_ok _ _) ?_)
  refine (right_is _ (tailS s) _ HTS.out HT.out).mono ?_
  rintro e w' ⟨rfl, rfl⟩
  go_wp2_with fail
  go_ret3
  exact ⟨rfl, below_store (hb0.trans hb2) _ _ hb2.size⟩
set_option maxRecDepth 100000 in
set_option maxHeartbeats 400000 in
theorem parse_tail_true (s : ByteArray) (w : World) (hs : s.size ≤ maxLen) (h : 33 ≤ s.size) (hd : dashB s = true) (hh : okL (headS s) = true) (ht : rightB (tailS s) = true) :
    Calls Try.prog 35 #[.string s] w fun e w' => e = .returned (.tuple #[.string (headS s), .string (tailS s), .int .i64 0]) ∧ Below w.heap.size w w' := by
  have HH := Lib.hid hh
  have HT := Lib.hid ht
  have HHS := Lib.hid (show (headS s).size ≤ maxLen by rw [head_size s (by omega)]; decide)
  have HTS := Lib.hid (show (tailS s).size ≤ maxLen by rw [tail_size]; omega)
  unfold maxLen at hs
  have hdl : decide ((s.size : Int) < 33) = false := by simp; omega
  have g : 32 < s.size := by omega
  have hb : ((s[32].toNat : Int) != 45) = false := by rw [dash_iff s g] at hd; simpa using hd
  clear hh hd ht
  go_enter Try.func35, Try.ntmps35
  go_wp2_with fail
  go_quiet (fail)
  have hb0 : Below w.heap.size w (w.drewN nq) := below_drewN (Below.refl _ _) nq
  go_wp2_with fail
  refine (bytes_is true (headS s) _ HHS.out HH.out).mono ?_
  rintro e w2 ⟨rfl, hb2⟩
  go_wp2_with (refine wpList_store_row rfl 53 _ _ rfl _ (digA (outD (headS s)) 20) rfl rfl 53 _ (heap_alloc_new _ _) (info20' _) (z20_size _) (digA_ok _ _) ?_)
  refine (right_is _ (tailS s) _ HTS.out HT.out).mono ?_
  rintro e w' ⟨rfl, rfl⟩
  go_wp2_with fail
  go_ret3
  exact ⟨rfl, below_store (hb0.trans hb2) _ _ hb2.size⟩
theorem parse_no (s : ByteArray) (w : World) (hs : s.size ≤ maxLen) (h : okP s = false) :
    Calls Try.prog 35 #[.string s] w fun e w' => e = .returned (.tuple #[.string ⟨#[]⟩, .string ⟨#[]⟩, .int .i64 90]) ∧ Below w.heap.size w w' := by
  by_cases h33 : s.size < 33
  · exact parse_short s w hs h33
  · cases hd : dashB s
    · exact parse_dash s w hs (by omega) hd
    · cases hh : okL (headS s)
      · exact parse_head s w hs (by omega) hd hh
      · cases ht : rightB (tailS s)
        · exact parse_tail_false s w hs (by omega) hd hh ht
        · simp [okP, hd, hh, ht] at h; omega
theorem parse_yes (s : ByteArray) (w : World) (hs : s.size ≤ maxLen) (h : okP s = true) :
    Calls Try.prog 35 #[.string s] w fun e w' => e = .returned (.tuple #[.string (headS s), .string (tailS s), .int .i64 0]) ∧ Below w.heap.size w w' := by
  obtain ⟨h1, h2, h3, h4⟩ := okP_yes s h
  exact parse_tail_true s w hs h1 h2 h3 h4

set_option maxRecDepth 100000 in
set_option maxHeartbeats 400000 in
theorem refParse_short (s : ByteArray) (w : World) (hs : s.size ≤ maxLen) (h : s.size < 34) :
    Calls Try.prog 44 #[.string s] w fun e w' => e = .returned (.tuple #[.string ⟨#[]⟩, .string ⟨#[]⟩, .int .i64 90]) ∧ Below w.heap.size w w' := by
  unfold maxLen at hs
  go_enter Try.func44, Try.ntmps44
  go_wp2_with fail
  go_ret3
  exact ⟨rfl, Below.refl _ _⟩
set_option maxRecDepth 100000 in
set_option maxHeartbeats 400000 in
theorem refParse_dash (s : ByteArray) (w : World) (hs : s.size ≤ maxLen) (h : 34 ≤ s.size) (hd : dashB s = false) :
    Calls Try.prog 44 #[.string s] w fun e w' => e = .returned (.tuple #[.string ⟨#[]⟩, .string ⟨#[]⟩, .int .i64 90]) ∧ Below w.heap.size w w' := by
  unfold maxLen at hs
  have hdl : decide ((s.size : Int) < 34) = false := by simp; omega
  have g : 32 < s.size := by omega
  have hb : ((s[32].toNat : Int) != 45) = true := by rw [dash_iff s g] at hd; rw [bne_iff_ne]; simpa using hd
  go_enter Try.func44, Try.ntmps44
  go_wp2_with fail
  go_ret3
  exact ⟨rfl, Below.refl _ _⟩
set_option maxRecDepth 100000 in
set_option maxHeartbeats 400000 in
theorem refParse_tail (s : ByteArray) (w : World) (hs : s.size ≤ maxLen) (h : 34 ≤ s.size) (hd : dashB s = true) (ht : rightB (tailS s) = false) :
    Calls Try.prog 44 #[.string s] w fun e w' => e = .returned (.tuple #[.string ⟨#[]⟩, .string ⟨#[]⟩, .int .i64 90]) ∧ Below w.heap.size w w' := by
  have HT := Lib.hid ht
  have HTS := Lib.hid (show (tailS s).size ≤ maxLen by rw [tail_size]; omega)
  unfold maxLen at hs
  have hdl : decide ((s.size : Int) < 34) = false := by simp; omega
  have g : 32 < s.size := by omega
  have hb : ((s[32].toNat : Int) != 45) = false := by rw [dash_iff s g] at hd; simpa using hd
  clear hd ht
  go_enter Try.func44, Try.ntmps44
  go_wp2_with (first | (go_at_call 52; refine (refRight_is _ (tailS s) _ HTS.out HT.out).mono ?_; rintro e w' ⟨rfl, rfl⟩))
  go_ret3
  exact ⟨rfl, Below.refl _ _⟩
set_option maxRecDepth 100000 in
set_option maxHeartbeats 400000 in
theorem refParse_head_false (s : ByteArray) (w : World) (hs : s.size ≤ maxLen) (h : 34 ≤ s.size) (hd : dashB s = true) (ht : rightB (tailS s) = true) (hh : okL (headS s) = false) :
    Calls Try.prog 44 #[.string s] w fun e w' => e = .returned (.tuple #[.string ⟨#[]⟩, .string ⟨#[]⟩, .int .i64 90]) ∧ Below w.heap.size w w' := by
  have HH := Lib.hid hh
  have HT := Lib.hid ht
  have HHS := Lib.hid (show (headS s).size ≤ maxLen by rw [head_size s (by omega)]; decide)
  have HTS := Lib.hid (show (tailS s).size ≤ maxLen by rw [tail_size]; omega)
  unfold maxLen at hs
  have hdl : decide ((s.size : Int) < 34) = false := by simp; omega
  have g : 32 < s.size := by omega
  have hb : ((s[32].toNat : Int) != 45) = false := by rw [dash_iff s g] at hd; simpa using hd
  clear hh hd ht
  go_enter Try.func44, Try.ntmps44
  go_wp2_with (first | (go_at_call 52; refine (refRight_is _ (tailS s) _ HTS.out HT.out).mono ?_; rintro e w' ⟨rfl, rfl⟩) | (go_at_call 19; refine (refBytes_is false (headS s) _ HHS.out HH.out).mono ?_; rintro e w2 ⟨rfl, hb2⟩) | (refine wpList_store_row rfl 53 _ _ rfl _ (digA (outD (headS s)) 20) rfl rfl 53 _ (heap_alloc_new _ _) (info20' _) (z20_size _) (digA_ok _ _) ?_))
  go_ret3
  exact ⟨rfl, below_store hb2 _ _ hb2.size⟩
set_option maxRecDepth 100000 in
set_option maxHeartbeats 400000 in
theorem refParse_head_true (s : ByteArray) (w : World) (hs : s.size ≤ maxLen) (h : 34 ≤ s.size) (hd : dashB s = true) (ht : rightB (tailS s) = true) (hh : okL (headS s) = true) :
    Calls Try.prog 44 #[.string s] w fun e w' => e = .returned (.tuple #[.string (headS s), .string (tailS s), .int .i64 0]) ∧ Below w.heap.size w w' := by
  have HH := Lib.hid hh
  have HT := Lib.hid ht
  have HHS := Lib.hid (show (headS s).size ≤ maxLen by rw [head_size s (by omega)]; decide)
  have HTS := Lib.hid (show (tailS s).size ≤ maxLen by rw [tail_size]; omega)
  unfold maxLen at hs
  have hdl : decide ((s.size : Int) < 34) = false := by simp; omega
  have g : 32 < s.size := by omega
  have hb : ((s[32].toNat : Int) != 45) = false := by rw [dash_iff s g] at hd; simpa using hd
  clear hh hd ht
  go_enter Try.func44, Try.ntmps44
  go_wp2_with (first | (go_at_call 52; refine (refRight_is _ (tailS s) _ HTS.out HT.out).mono ?_; rintro e w' ⟨rfl, rfl⟩) | (go_at_call 19; refine (refBytes_is true (headS s) _ HHS.out HH.out).mono ?_; rintro e w2 ⟨rfl, hb2⟩) | (refine wpList_store_row rfl 53 _ _ rfl _ (digA (outD (headS s)) 20) rfl rfl 53 _ (heap_alloc_new _ _) (info20' _) (z20_size _) (digA_ok _ _) ?_))
  go_quiet (fail)
  go_wp2
  go_ret3
  exact ⟨rfl, below_drewN (below_store hb2 _ _ hb2.size) _⟩
theorem refParse_no (s : ByteArray) (w : World) (hs : s.size ≤ maxLen) (h : okP s = false) :
    Calls Try.prog 44 #[.string s] w fun e w' => e = .returned (.tuple #[.string ⟨#[]⟩, .string ⟨#[]⟩, .int .i64 90]) ∧ Below w.heap.size w w' := by
  by_cases h34 : s.size < 34
  · exact refParse_short s w hs h34
  · cases hd : dashB s
    · exact refParse_dash s w hs (by omega) hd
    · cases ht : rightB (tailS s)
      · exact refParse_tail s w hs (by omega) hd ht
      · cases hh : okL (headS s)
        · exact refParse_head_false s w hs (by omega) hd ht hh
        · simp [okP, hd, hh, ht] at h; omega
theorem refParse_yes (s : ByteArray) (w : World) (hs : s.size ≤ maxLen) (h : okP s = true) :
    Calls Try.prog 44 #[.string s] w fun e w' => e = .returned (.tuple #[.string (headS s), .string (tailS s), .int .i64 0]) ∧ Below w.heap.size w w' := by
  obtain ⟨h1, h2, h3, h4⟩ := okP_yes s h
  have : 34 ≤ s.size := by
    rcases Nat.lt_or_ge s.size 34 with h5 | h5
    · rw [okP_33 s h5] at h; cases h
    · exact h5
  exact refParse_head_true s w hs this h2 h4 h3
end Go.Proofs.Ytadlimfpcfdgcaa.Nam
