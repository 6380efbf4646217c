/- The chapter's examples: works answers true. -/
import Derived.Test.YtijepjoklmblhaaDoorVerS
namespace Go.Proofs.YtijepjoklmblhaaDoor
open Go.RowKit Go.BigFrame
open Ver (prs cmpV BL)

def sV : ByteArray := ⟨#[49, 46, 50, 48, 46, 51, 45, 114, 99, 49]⟩
def s12 : ByteArray := ⟨#[49, 46, 50]⟩
def s110 : ByteArray := ⟨#[49, 46, 49, 48]⟩
def s120 : ByteArray := ⟨#[49, 46, 50, 46, 48]⟩
def s10r : ByteArray := ⟨#[49, 46, 48, 45, 114, 99, 49]⟩
def s10 : ByteArray := ⟨#[49, 46, 48]⟩
def s01 : ByteArray := ⟨#[48, 49]⟩
def sT : ByteArray := ⟨#[49, 48]⟩
def sU : ByteArray := ⟨#[50]⟩
theorem okV_ : okS sV = true ∧ verOf sV = ([1, 20, 3], [114, 99, 49]) := by decide +kernel
theorem c1_ : cmpS s12 s110 = -1 ∧ okST s12 s110 = true := by decide +kernel
theorem c2_ : cmpS s12 s120 = -1 ∧ okST s12 s120 = true := by decide +kernel
theorem c3_ : cmpS s10r s10 = -1 ∧ okST s10r s10 = true := by decide +kernel
theorem no01 : okS s01 = false := by decide +kernel
theorem okTU : okAll [sT, sU] = true := by decide +kernel
theorem sorted_TU (out : List ByteArray) (hp : out.Perm [sT, sU]) (hs : Ver.Srt cmpS out) : out = [sU, sT] := by
  refine Ver.srt_unique cmpS out [sU, sT] (hp.trans (List.Perm.swap _ _ _)) hs ?_ ?_
  · exact List.pairwise_cons.2 ⟨fun y hy => by rw [List.mem_singleton] at hy; subst hy; decide +kernel, List.pairwise_cons.2 ⟨fun _ h => by simp at h, List.Pairwise.nil⟩⟩
  · intro x hx y hy h1 h2
    have hx' := hp.mem_iff.1 hx
    have hy' := hp.mem_iff.1 hy
    simp only [List.mem_cons, List.not_mem_nil, or_false] at hx' hy'
    have e1 : ¬ cmpS sT sU ≤ 0 := by decide +kernel
    rcases hx' with rfl | rfl <;> rcases hy' with rfl | rfl
    · rfl
    · exact absurd h1 e1
    · exact absurd h2 e1
    · rfl
theorem texts_is (c : Int) (b : Bool) (s t : ByteArray) (w : World) (hs : s.size ≤ 1000000) (ht : t.size ≤ 1000000) (h : cmpS s t = c ∧ okST s t = b) :
    Calls Tryd.prog 18 #[.string s, .string t] w fun e w' => e = .returned (.tuple #[.int .i64 c, .bool b]) ∧ Below w.heap.size w w' := h.1 ▸ h.2 ▸ texts_any s t w hs ht
/-- A new row of texts. -/
theorem reads_new (w : World) (cs : Array Value) (T : TypeId) (xs : List Value) (h : cs.toList = xs) (hn : xs.length ≤ 1000) : Reads (w.alloc (.cells cs T)) (w.alloc (.cells cs T)).heap.size (.slice (some ⟨w.heap.size, 0, none⟩) xs.length xs.length) xs :=
  ⟨_, _, rfl, Nat.le_refl _, by unfold maxLen; omega, (fun h => by cases h), fun _ => ⟨_, rfl, by simp, fun j u hu => row_cells (heap_alloc_new w (.cells cs T)) j u (by rw [← hu, ← h]; simp)⟩⟩
set_option maxRecDepth 100000 in
set_option maxHeartbeats 2000000 in
theorem works_any (w : World) : Calls Tryd.prog 6 #[] w fun e w' => e = .returned (.bool true) ∧ Below w.heap.size w w' := by
  go_enter Tryd.func6, Tryd.ntmps6
  go_wp2_with fail
  refine (parse_yes sV _ (by decide) okV_.1).mono ?_
  rintro e w1 ⟨v, t, rfl, hR, htl, htz, hb1, ⟨A, n, cap, rfl, _⟩⟩
  rw [okV_.2] at hR htl
  obtain rfl : t = ⟨#[114, 99, 49]⟩ := str_ext (by rw [htl])
  go_upto_region 2 with (fail)
  obtain ⟨w2, hw2, hg2, hb12, hz2, hb2⟩ := row_at w w1 (.cells #[.slice A n cap, .string ⟨#[114, 99, 49]⟩] 24) hb1
  rw [← hw2]
  have hR2 := (hR.below hb12).more hb12.size
  have hzz := hb12.size
  clear hw2 hR htl hb12 htz hb1
  go_upto_region 3 with (go_at_call 18; refine (texts_is _ _ s12 s110 _ (by decide) (by decide) c1_).mono ?_; rintro e w3 ⟨rfl, hb3⟩)
  have hg3 := (hb3.block w1.heap.size (by omega)).trans hg2
  have hR3 := (hR2.below hb3).more hb3.size
  have hb3' := below_step hb2 hb3 hb2.size
  have hz3 : w1.heap.size < w3.heap.size := by have := hb3.size; omega
  clear hb3 hR2 hg2 hb2 hz2
  go_upto_region 4 with (go_at_call 18; refine (texts_is _ _ s12 s120 _ (by decide) (by decide) c2_).mono ?_; rintro e w4 ⟨rfl, hb4⟩)
  have hg4 := (hb4.block w1.heap.size (by omega)).trans hg3
  have hR4 := (hR3.below hb4).more hb4.size
  have hb4' := below_step hb3' hb4 hb3'.size
  have hz4 : w1.heap.size < w4.heap.size := by have := hb4.size; omega
  clear hb4 hR3 hg3 hb3' hz3
  go_upto_region 5 with (go_at_call 18; refine (texts_is _ _ s10r s10 _ (by decide) (by decide) c3_).mono ?_; rintro e w5 ⟨rfl, hb5⟩)
  have hg5 := (hb5.block w1.heap.size (by omega)).trans hg4
  have hR5 := (hR4.below hb5).more hb5.size
  have hb5' := below_step hb4' hb5 hb4'.size
  have hz5 : w1.heap.size < w5.heap.size := by have := hb5.size; omega
  clear hb5 hR4 hg4 hb4' hz4
  go_wp2_with fail
  refine (parse_no s01 _ (by decide) no01).mono ?_
  rintro e w6 ⟨rfl, hb6⟩
  have hg6 := (hb6.block w1.heap.size (by omega)).trans hg5
  have hR6 := (hR5.below hb6).more hb6.size
  have hb6' := below_step hb5' hb6 hb5'.size
  have hz6 : w1.heap.size < w6.heap.size := by have := hb6.size; omega
  clear hb6 hR5 hg5 hb5' hz5
  go_upto_region 6 with (fail)
  obtain ⟨w7, hw7, _, hb67, hz67, hb7⟩ := row_at w w6 (.cells #[.slice none 0 0, .string ⟨#[]⟩] 24) hb6'
  rw [← hw7]
  have hg7 := (hb67.block w1.heap.size (by omega)).trans hg6
  have hR7 := (hR6.below hb67).more hb67.size
  have hz7 : w1.heap.size < w7.heap.size := by omega
  clear hw7 hb67 hR6 hg6 hb6' hz6 hz67
  go_wp2_with fail
  have hrn := reads_new w7 #[.string sT, .string sU] 9 (strs [sT, sU]) rfl (by decide)
  refine (sort_any _ [sT, sU] _ _ hrn (Nat.le_refl _) (by decide) (by intro s hs; simp at hs; rcases hs with rfl | rfl <;> decide)).mono ?_
  intro e w8 hp
  unfold SortPost at hp
  rw [if_pos okTU] at hp
  obtain ⟨sv, out, rfl, hown, hpm, hst, hb8⟩ := hp
  obtain rfl := sorted_TU out hpm hst
  have hb78 : Below w7.heap.size w7 w8 := ((Below.refl _ _).alloc (Nat.le_refl _) _).trans (hb8.mono (by simp))
  have hg8 := (hb78.block w1.heap.size (by omega)).trans hg7
  have hR8 := (hR7.below hb78).more hb78.size
  have hb8' := below_step hb7 hb78 hb7.size
  have hz8 : w1.heap.size < w8.heap.size := by have := hb78.size; omega
  have hRS := Reads.own hown
  obtain ⟨hc0, hc1, _, _⟩ := cell_two hg8
  clear hb8 hb78 hrn hpm hst hown hg7 hR7 hg8 hz7 hb7
  go_wp2_with fail
  have hbi : Below w8.heap.size w8 (w8.alloc (.cells #[.int .i64 1, .int .i64 20, .int .i64 3] 3)) := (Below.refl _ _).alloc (Nat.le_refl _) _
  have hra := (hR8.below hbi).more hbi.size
  have hrb := reads_new w8 #[.int .i64 1, .int .i64 20, .int .i64 3] 3 (ints [1, 20, 3]) rfl (by decide)
  refine (sameInts_any _ _ [1, 20, 3] [1, 20, 3] _ _ hra hrb).mono ?_
  rintro e w9 ⟨rfl, nq, hw9⟩
  have hb9 : Below w8.heap.size w8 w9 := by rw [hw9]; exact below_drewN hbi nq
  have hd0 := (hb9.cell (p := ⟨w1.heap.size, 0, none⟩) hz8).trans hc0
  have hd1 := (hb9.cell (p := ⟨w1.heap.size, 1, none⟩) hz8).trans hc1
  have hRS9 := (hRS.below hb9).more hb9.size
  have hb9' := below_step hb8' hb9 hb8'.size
  rw [show decide (([1, 20, 3] : List Int) = [1, 20, 3]) = true from rfl]
  clear hbi hra hrb hw9 hb9 hRS hb8' hc0 hc1 hR8
  go_wp2_with fail
  have hbt : Below w9.heap.size w9 (w9.alloc (.cells #[.string sU, .string sT] 9)) := (Below.refl _ _).alloc (Nat.le_refl _) _
  have hta := (hRS9.below hbt).more hbt.size
  have htb := reads_new w9 #[.string sU, .string sT] 9 (strs [sU, sT]) rfl (by decide)
  refine (sameTexts_any _ _ [sU, sT] [sU, sT] _ _ hta htb).mono ?_
  rintro e w10 ⟨rfl, nq2, hw10⟩
  have hb10 : Below w9.heap.size w9 w10 := by rw [hw10]; exact below_drewN hbt nq2
  rw [show decide (([sU, sT] : List ByteArray) = [sU, sT]) = true from decide_eq_true rfl]
  clear hbt hta htb hw10
  go_wp2_with fail
  go_ret
  exact ⟨rfl, below_step hb9' hb10 hb9'.size⟩
end Go.Proofs.YtijepjoklmblhaaDoor
