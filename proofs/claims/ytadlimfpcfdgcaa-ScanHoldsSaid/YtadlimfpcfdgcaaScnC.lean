/- scan: the iterator over the windows of a text: its contract. -/
import Derived.Test.YtadlimfpcfdgcaaScnA
import Derived.Test.YtadlimfpcfdgcaaBaseB
import Derived.RangeFuncNested
import Derived.RangeFuncBound
import Derived.RangeFuncCalls
import Derived.RangeFuncLeaves
import Derived.Shelf.Abstract
import Derived.Shelf.RegionOpen
import Derived.WalkKit
import Derived.OwnWalkIn
import Derived.TacticsInMore
import Derived.LoopNIn
import Derived.LoopIn
set_option linter.unusedVariables false
set_option linter.unusedSimpArgs false
namespace Go.Proofs.Ytadlimfpcfdgcaa
open Go Go.RowKit Go.BigFrame
open Scn (runOf wins firsts)
attribute [local go_sem] Oper.semAt_some

/-- The windows of a text. -/
def winB (s : ByteArray) : List ByteArray := (wins letB 32 s.data.toList).map strOf
/-- A text of 32 bytes. -/
abbrev T32 := { x : ByteArray // x.size = 32 }
/-- What a round keeps, for the iterator: the text's box. -/
def KpB (bn : Nat) (W W' : World) : Prop := W'.heap[bn]? = W.heap[bn]?
theorem KpB.trans {bn : Nat} {X Y Z : World} (h : KpB bn X Y) (k : KpB bn Y Z) : KpB bn X Z := Eq.trans k h
theorem strOf_list (s : ByteArray) : strOf s.data.toList = s := by
  unfold strOf; simp
theorem sub_text (s : ByteArray) (a b : Nat) (h : b ≤ s.size) (hab : a ≤ b) : s.extract a b = strOf ((s.data.toList.take b).drop a) := by
  apply str_ext
  unfold strOf
  simp [ByteArray.data_extract]
  rw [List.drop_take]
theorem wins_prefix (s : ByteArray) (k : Nat) : wins letB 32 (s.data.toList.take k) <+: wins letB 32 s.data.toList := by
  have h : ∀ (b a : List UInt8), wins letB 32 a <+: wins letB 32 (a ++ b) := by
    intro b
    induction b with
    | nil => intro a; simp
    | cons c b ih =>
      intro a
      have h1 := ih (a ++ [c])
      rw [List.append_assoc, List.singleton_append] at h1
      refine List.IsPrefix.trans ?_ h1
      rw [Scn.wins_snoc letB 32 (by omega)]
      exact List.prefix_append _ _
  have := h (s.data.toList.drop k) (s.data.toList.take k)
  rwa [List.take_append_drop] at this
theorem windows_any (s : ByteArray) (w : World) : Calls Try.prog 18 #[.string s] w fun e w' => e = .returned (.func (.func 31) #[] #[.pointer (some ⟨w.heap.size, 0, none⟩)]) ∧ w' = w.alloc (.cells #[.string s] 9) := by
  go_enter Try.func18, Try.ntmps18
  go_wp2
  go_ret
  exact ⟨rfl, rfl⟩
theorem windows_stops (n : Nat) (hn : 1 ≤ n) (w : World) (bn : Nat) (s : ByteArray) (hs : s.size ≤ maxLen) (hb : w.heap[bn]? = some (.cells #[.string s] 9 (0, 0))) :
    SeqStopsK Fence.wide n Try.prog 31 #[.pointer (some ⟨bn, 0, none⟩)] (fun x : T32 => #[.string x.1]) (KpB bn)
      (fun xs => xs.map (·.1) = winB s) (fun pre => pre.map (·.1) <+: winB s) (winB s).length w := by
  intro l J Jx W hW hJ hJx hY h0
  have hro : Fence.wide.round = none := rfl
  have hbW : W.heap[bn]? = some (.cells #[.string s] 9 (0, 0)) := (hW.block bn (block_lt hb)).trans hb
  have HB := Lib.hid hbW
  have hc0 : W.cell? ⟨bn, 0, none⟩ = some (.string s) := by rw [cell_of_row _ _ _ _ _ _ hbW]; rfl
  have HY := Lib.hid hY
  have HSL := Lib.hid (show s.data.toList.length = s.size by rw [Array.length_toList]; rfl)
  have HJ := Lib.hid hJ
  unfold maxLen at hs
  clear hY hJ hbW
  refine callsIn_of_wp Try.func31 rfl trivial ?_ hro
  simp only [Try.ntmps31, List.size_toArray, List.length_cons, List.length_nil, Nat.reduceAdd, Nat.reduceSub, Array.replicate_succ, Array.replicate_zero, List.push_toArray, List.append_toArray, List.nil_append, List.cons_append]
  gi_wp2
  clear hc0
  gi_loopw [3, 7] (fun r i wr => ∃ (k : Nat) (pre : List T32), k ≤ s.size ∧ i = .int .i64 k ∧ r = .int .i64 (runOf letB (s.data.toList.take k) : Int) ∧ Hid (pre.map (·.1) = (wins letB 32 (s.data.toList.take k)).map strOf) ∧ Hid (wr.heap[bn]? = some (.cells #[.string s] 9 (0, 0))) ∧ Hid (J pre wr)) (fun _ i _ => s.size - (intOf i).toNat)
  case atStart => exact ⟨0, [], by omega, rfl, rfl, Lib.hid rfl, HB, Lib.hid h0⟩
  case round =>
    obtain ⟨k, pre, hk, rfl, rfl, HP, HBr, HJr⟩ := hrel
    have hc : wr.cell? ⟨bn, 0, none⟩ = some (.string s) := by rw [cell_of_row _ _ _ _ _ _ HBr.out]; rfl
    obtain ⟨r, hr⟩ : ∃ r, r = runOf letB (s.data.toList.take k) := ⟨_, rfl⟩
    have hrk : r ≤ k := by rw [hr]; have := Scn.runOf_le letB (s.data.toList.take k); rw [List.length_take] at this; omega
    have HR := Lib.hid hr
    rw [← hr]
    clear hr
    by_cases hlt : k < s.size
    · have hk1 : (k : Int) < (s.size : Int) := by omega
      have hk0 : (0 : Int) ≤ (k : Int) := by omega
      have HTK := Lib.hid (show s.data.toList.take (k + 1) = s.data.toList.take k ++ [s[k]] by
        rw [List.take_succ_eq_append_getElem (by simpa using hlt)]; rfl)
      have hw1 : IntKind.i64.wrap ((k : Int) + 1) = (k : Int) + 1 := IntWalk.i64_in _ (by omega)
      have hw2 : IntKind.i64.wrap ((r : Int) + 1) = (r : Int) + 1 := IntWalk.i64_in _ (by omega)
      have hw3 : IntKind.i64.wrap ((k : Int) + 1 - 32) = (k : Int) + 1 - 32 := IntWalk.i64_in _ (by omega)
      have HLET := Lib.hid (fun (w : World) => (callsIn_wide (n := n - 1)).2 (letter_any s[k] w))
      cases hlb : letB s[k] with
      | false =>
        rw [hlb] at HLET
        have HW := Lib.hid (show wins letB 32 (s.data.toList.take (k + 1)) = wins letB 32 (s.data.toList.take k) by
          rw [HTK.out, Scn.wins_snoc letB 32 (by omega), Scn.runOf_no letB _ _ hlb, if_neg (by omega), List.append_nil])
        have HRN := Lib.hid (show runOf letB (s.data.toList.take (k + 1)) = 0 by rw [HTK.out]; exact Scn.runOf_no letB _ _ hlb)
        gi_wp2_with (refine ⟨trivial, (HLET.out _).mono ?_⟩; rintro e W2 ⟨rfl, rfl⟩)
        go_roundw
        case rel => exact ⟨k + 1, pre, by omega, by go_num, by rw [HRN.out]; rfl, Lib.hid (by rw [HW.out]; exact HP.out), HBr, HJr⟩
        case measure => simp [intOf]; omega
      | true =>
        rw [hlb] at HLET
        have HRN := Lib.hid (show runOf letB (s.data.toList.take (k + 1)) = r + 1 by rw [HTK.out, Scn.runOf_yes letB _ _ hlb, HR.out])
        have HW0 := Lib.hid (Scn.wins_snoc letB 32 (by omega) (s.data.toList.take k) s[k])
        rw [← HTK.out, HRN.out] at HW0
        have hlk : (s.data.toList.take (k + 1)).length = k + 1 := by rw [List.length_take, HSL.out]; omega
        rw [hlk] at HW0
        by_cases hrun : 32 ≤ r + 1
        · have hrI : (32 : Int) ≤ (r : Int) + 1 := by omega
          have hx32 : (s.extract (k + 1 - 32) (k + 1)).size = 32 := by simp; omega
          obtain ⟨x, hx⟩ : ∃ x : T32, x.1 = s.extract (k + 1 - 32) (k + 1) := ⟨⟨_, hx32⟩, rfl⟩
          have HXV := Lib.hid (show x.1 = strOf ((s.data.toList.take (k + 1)).drop (k + 1 - 32)) by rw [hx]; exact sub_text s _ _ (by omega) (by omega))
          have HPX := Lib.hid (show (pre ++ [x]).map (·.1) = (wins letB 32 (s.data.toList.take (k + 1))).map strOf by
            rw [HW0.out, if_pos hrun, List.map_append, List.map_append, HP.out, List.map_cons, List.map_nil, HXV.out]; rfl)
          have HPF := Lib.hid (show (pre ++ [x]).map (·.1) <+: winB s by
            rw [HPX.out]
            exact (wins_prefix s (k + 1)).map _)
          have hlen : pre.length < (winB s).length := by have := HPF.out.length_le; simp at this; omega
          obtain ⟨fn, tmps, assign, body, hy, hR⟩ := HY.out pre x wr HJr.out hlen
          rw [hx, show k + 1 - 32 = k - 31 by omega] at hy
          gi_wp2_with (refine ⟨trivial, (HLET.out _).mono ?_⟩; rintro e W2 ⟨rfl, rfl⟩)
          refine hR.mono ?_
          rintro e W3 (⟨rfl, hJ3, hk3⟩ | ⟨rfl, hJx3⟩)
          · gi_wp2
            go_roundw
            case rel => exact ⟨k + 1, pre ++ [x], by omega, by go_num, by rw [HRN.out]; go_num, HPX, Lib.hid (Eq.trans hk3 HBr.out), Lib.hid hJ3⟩
            case measure => simp [intOf]; omega
          · gi_wp2
            refine bodyPost_ret (results_none rfl _ _ _) rfl ?_
            exact ⟨⟨_, rfl⟩, .inr ⟨pre ++ [x], HPF.out, hJx3⟩⟩
        · have hrI : ¬ (32 : Int) ≤ (r : Int) + 1 := by omega
          have HW := Lib.hid (show wins letB 32 (s.data.toList.take (k + 1)) = wins letB 32 (s.data.toList.take k) by
            rw [HW0.out, if_neg hrun, List.append_nil])
          gi_wp2_with (refine ⟨trivial, (HLET.out _).mono ?_⟩; rintro e W2 ⟨rfl, rfl⟩)
          refine ⟨fun _ h => (by cases h), ?_⟩
          gi_wp2
          go_roundw
          case rel => exact ⟨k + 1, pre, by omega, by go_num, by rw [HRN.out]; go_num, Lib.hid (by rw [HW.out]; exact HP.out), HBr, HJr⟩
          case measure => simp [intOf]; omega
    · have hk1 : ¬ (k : Int) < (s.size : Int) := by omega
      have HE := Lib.hid (show s.data.toList.take k = s.data.toList from List.take_of_length_le (by rw [HSL.out]; omega))
      gi_wp2
      go_end0
      exact ⟨⟨_, rfl⟩, .inl ⟨pre, by have := HP.out; rw [HE.out] at this; exact this, HJr.out⟩⟩
end Go.Proofs.Ytadlimfpcfdgcaa
