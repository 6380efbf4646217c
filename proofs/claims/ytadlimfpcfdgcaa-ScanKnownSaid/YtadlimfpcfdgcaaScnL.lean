/- scan: ScanHolds: what it asks, in plain maths. -/
import Derived.Test.YtadlimfpcfdgcaaScnK
import Derived.Test.YtadlimfpcfdgcaaNamM
set_option linter.unusedVariables false
set_option linter.unusedSimpArgs false
namespace Go.Proofs.Ytadlimfpcfdgcaa
open Go Go.RowKit Go.BigFrame Go.Maps
open Scn (runOf wins winsTo firsts)

theorem strOf_data (l : List UInt8) : (strOf l).data.toList = l := by simp [strOf]
theorem strOf_app (a b : List UInt8) : strOf a ++ strOf b = strOf (a ++ b) := by
  apply str_ext
  simp [strOf, ByteArray.data_append]
theorem winB_of (l : List UInt8) : winB (strOf l) = (wins letB 32 l).map strOf := by unfold winB; rw [strOf_data]
theorem letS_list (d : Nat → Nat) : Nam.letS d = strOf (Nam.letS d).data.toList := (strOf_list _).symm
theorem letS_win (d : Nat → Nat) (a b : List UInt8) : isIn (Nam.letS d) (winB (strOf (a ++ (Nam.letS d).data.toList ++ b))) = true := by
  rw [isIn_iff, winB_of]
  have hz : (Nam.letS d).data.toList.length = 32 := by rw [Array.length_toList]; exact Nam.letS_size d
  refine List.mem_map.2 ⟨(Nam.letS d).data.toList, (Scn.mem_wins letB 32 _ _).2 ⟨hz, ?_, a, b, rfl⟩, strOf_list _⟩
  rw [← okL_win _ hz, strOf_list]
  exact Nam.okL_letS d
def xS : ByteArray := ⟨#[120]⟩
theorem xS_right : Nam.rightB xS = true := by decide +kernel
theorem refs_name (d : Nat → Nat) (a b : List UInt8) : refsF (strOf (a ++ (Nam.letS d).data.toList ++ b)) [Nam.nameS d xS] = [Nam.nameS d xS] := by
  unfold refsF toldF
  rw [List.filter_cons, if_pos, List.filter_nil]
  rw [Nam.okP_nameS d xS xS_right, Nam.headS_nameS, letS_win]
  rfl
theorem all_left (a b : List UInt8) (x : ByteArray) (h : x ∈ allF (strOf a)) : isIn x (allF (strOf (a ++ b))) = true := by
  rw [isIn_iff]
  unfold allF at *
  rw [Scn.mem_firsts, winB_of] at *
  obtain ⟨y, hy, rfl⟩ := List.mem_map.1 h
  exact List.mem_map.2 ⟨y, Scn.wins_left letB 32 a b y hy, rfl⟩
theorem all_right (a b : List UInt8) (x : ByteArray) (h : x ∈ allF (strOf b)) : isIn x (allF (strOf (a ++ b))) = true := by
  rw [isIn_iff]
  unfold allF at *
  rw [Scn.mem_firsts, winB_of] at *
  obtain ⟨y, hy, rfl⟩ := List.mem_map.1 h
  exact List.mem_map.2 ⟨y, Scn.wins_right letB 32 a b y hy, rfl⟩
def seamL (a b : List UInt8) : List UInt8 := a.drop (a.length - 31) ++ b.take 31
theorem all_seam (a b : List UInt8) (x : ByteArray) (h : x ∈ allF (strOf (a ++ b))) (h1 : isIn x (allF (strOf a)) = false) (h2 : isIn x (allF (strOf b)) = false) : isIn x (allF (strOf (seamL a b))) = true := by
  have n1 : ¬ x ∈ allF (strOf a) := fun e => by rw [← isIn_iff, h1] at e; cases e
  have n2 : ¬ x ∈ allF (strOf b) := fun e => by rw [← isIn_iff, h2] at e; cases e
  rw [isIn_iff]
  unfold allF at *
  rw [Scn.mem_firsts, winB_of] at *
  obtain ⟨y, hy, rfl⟩ := List.mem_map.1 h
  rcases Scn.wins_seam letB 32 (by omega) a b y hy with h3 | h3 | h3
  · exact absurd (List.mem_map.2 ⟨y, h3, rfl⟩) n1
  · exact absurd (List.mem_map.2 ⟨y, h3, rfl⟩) n2
  · exact List.mem_map.2 ⟨y, h3, rfl⟩
theorem seam_cut (a b : List UInt8) (lo hi : Nat) (h1 : lo = a.length - 31) (h2 : hi = min (a.length + b.length) (a.length + 31)) : (strOf (a ++ b)).extract lo hi = strOf (seamL a b) := by
  rw [sub_text _ _ _ (by rw [strOf_size, List.length_append]; omega) (by omega), strOf_data]
  congr 1
  unfold seamL
  have h3 : (a ++ b).take hi = a ++ b.take 31 := by
    rw [List.take_append, List.take_of_length_le (show a.length ≤ hi by omega)]
    congr 1
    rcases Nat.lt_or_ge b.length 31 with h | h
    · rw [List.take_of_length_le (show b.length ≤ hi - a.length by omega), List.take_of_length_le (by omega)]
    · congr 1; omega
  rw [h3, h1, List.drop_append_of_le_length (by omega)]
/-- The text `has`, at a world that only drew. -/
theorem has_is (a : Value) (xs : List ByteArray) (s : ByteArray) (B : Nat) (w : World) (b : Bool) (ha : Reads w B a (strs xs)) (h : isIn s xs = b) :
    Calls Try.prog 13 #[a, .string s] w fun e w' => e = .returned (.bool b) ∧ Below w.heap.size w w' := by
  refine (has_any a xs s B w ha).mono ?_
  rintro e w' ⟨rfl, nq, rfl⟩
  exact ⟨by rw [h], below_drewN (Below.refl _ _) _⟩
end Go.Proofs.Ytadlimfpcfdgcaa
