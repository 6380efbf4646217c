/- Contracts of bears and bounded; a test. -/
import Derived.Test.YtjckcdemkpmheaaDoorRngD
import Derived.Laws.EntriesVeiled
namespace Go.Proofs.YtjckcdemkpmheaaDoor
open Go.RowKit Go.BigFrame
open Ver (cmpV BL)

def fnId : Nat → FuncId
  | 0 => 63
  | 1 => 64
  | 2 => 65
  | 3 => 66
  | 4 => 67
  | 5 => 68
  | 6 => 69
  | _ => 70
def fnOf (o : Nat) : Value := .func (.func (fnId o)) #[] #[]
theorem kind_any (o : Nat) (h : o ≤ 7) (a b : Value) (xs ys : List Int) (p q : ByteArray) (w : World) (ha : Reads w w.heap.size a (ints xs)) (hb : Reads w w.heap.size b (ints ys)) (hy : o = 7 → 1 ≤ ys.length) (hp : p.size ≤ 1000000) (hq : q.size ≤ 1000000) :
    Calls Tryd.prog (fnId o) #[.agg #[a, .string p], .agg #[b, .string q]] w fun e w' => e = .returned (.bool (opV o (xs, p.data.toList) (ys, q.data.toList))) ∧ Below w.heap.size w w' := by
  rcases op_cases o h with rfl | rfl | rfl | rfl | rfl | rfl | rfl | rfl
  · exact kind_0 a b p q w
  · exact kind_1 a b xs ys p q w ha hb hp hq
  · exact kind_2 a b xs ys p q w ha hb hp hq
  · exact kind_3 a b xs ys p q w ha hb hp hq
  · exact kind_4 a b xs ys p q w ha hb hp hq
  · exact kind_5 a b xs ys p q w ha hb hp hq
  · exact kind_6 a b xs ys p q w ha hb hp hq
  · exact near_any a b xs ys p q w ha hb (hy rfl) hp hq
def fnCells : List Value := [fnOf 0, fnOf 1, fnOf 2, fnOf 3, fnOf 4, fnOf 5, fnOf 6, fnOf 7]
set_option maxRecDepth 100000 in
set_option maxHeartbeats 800000 in
theorem bears_any (o : Nat) (h : o ≤ 7) (w : World) : Calls Tryd.prog 41 #[.int .u8 (o : Int)] w fun e w' => e = .returned (.func (.func (fnId o)) #[] #[]) ∧ Below w.heap.size w w' := by
  have h0 : (0 : Int) ≤ (o : Int) := by omega
  have h8 : (o : Int) < 8 := by omega
  go_enter Tryd.func41, Tryd.ntmps41
  go_upto_region 2 with (fail)
  obtain ⟨W1, hW1, hg1, hb1, _, _⟩ := row_at w w (.cells #[(.func (.func 63) #[] #[]), (.func (.func 64) #[] #[]), (.func (.func 65) #[] #[]), (.func (.func 66) #[] #[]), (.func (.func 67) #[] #[]), (.func (.func 68) #[] #[]), (.func (.func 69) #[] #[]), (.func (.func 70) #[] #[])] 104) (Below.refl _ _)
  rw [← hW1]
  clear hW1
  have hc : W1.cell? ⟨w.heap.size, o, none⟩ = some (fnOf o) := by
    rw [cell_of_row _ _ _ _ _ _ hg1]
    rcases op_cases o h with rfl | rfl | rfl | rfl | rfl | rfl | rfl | rfl <;> rfl
  unfold fnOf at hc
  obtain ⟨fo, hfo⟩ : ∃ fo, fo = fnId o := ⟨_, rfl⟩
  rw [← hfo] at hc
  have HFO := Lib.hid hfo
  clear hfo
  clear hg1
  go_wp2
  exact bodyPost_ret (v := .func (.func fo) #[] #[]) (by simp [results, Tryd.results41, go_sem]) rfl ⟨by rw [HFO.out], hb1⟩
def zeroVV : Value := .agg #[.slice none 0 0, .string ⟨#[]⟩]
theorem mayB_zero (v : ByteArray) : mayB (0, v) = decide (v.size = 0) := by
  unfold mayB Rng.mayL bdL
  rw [if_pos rfl, Bool.eq_iff_iff, List.isEmpty_iff, decide_eq_true_eq]
  constructor
  · intro h
    have := congrArg List.length h
    rw [len_data] at this; exact this
  · intro h; exact List.eq_nil_of_length_eq_zero (by rw [len_data]; exact h)
theorem mayB_pos (o : Nat) (v : ByteArray) (h : o ≠ 0) : mayB (o, v) = (decide (o ≤ 7) && okS v) := by
  unfold mayB Rng.mayL bdL
  rw [if_neg h]; rfl
theorem verOf_nil : verOf ⟨#[]⟩ = ([], []) := by decide
/-- What bounded answers. -/
def Bounded (b : Bd) (w : World) (e : Ending) (w' : World) : Prop :=
  ∃ v t, e = .returned (.tuple #[.agg #[v, .string t], .bool (mayB b)]) ∧ (∃ A n cap, v = .slice A n cap) ∧ Below w.heap.size w w' ∧
    (mayB b = true → RdS w' (fun g => w.heap.size ≤ g) v (verOf b.2).1.length (ints (verOf b.2).1) ∧ t.data.toList = (verOf b.2).2 ∧ t.size ≤ 16)
set_option maxRecDepth 100000 in
set_option maxHeartbeats 800000 in
theorem bounded_zero (v : ByteArray) (w : World) : Calls Tryd.prog 40 #[.agg #[.int .u8 0, .string v]] w (Bounded (0, v) w) := by
  have HM := Lib.hid (show v.toList.isEmpty = mayB (0, v) by rw [mayB_zero, Lib.toList_data, Bool.eq_iff_iff, List.isEmpty_iff, decide_eq_true_eq, ← len_data]; exact List.length_eq_zero_iff.symm)
  go_enter Tryd.func40, Tryd.ntmps40
  go_upto_region 2 with (fail)
  obtain ⟨W1, hW1, hg0, hg1, hb1, hz1⟩ := rows2 w (.cells #[.int .u8 0, .string v] 45) (.cells #[.slice none 0 0, .string ⟨#[]⟩] 65)
  rw [← hW1]
  clear hW1
  obtain ⟨hc0, hc1, _, _⟩ := cell_two hg0
  obtain ⟨hd0, hd1, hf0, hf1⟩ := cell_two hg1
  clear hg0 hg1 hz1
  go_region
  all_goals
    go_wp2
    refine bodyPost_ret (v := .tuple #[.agg #[.slice none 0 0, .string ⟨#[]⟩], .bool v.toList.isEmpty]) (by simp [results, Tryd.results40, go_sem, hd0, hd1, hf0, hf1]) rfl ⟨_, _, by rw [HM.out], ⟨_, _, _, rfl⟩, ?_, fun h => ?_⟩
    · exact ((hb1.setCell (by simp) _).setCell (by simp) _).drew
    · have hv : v.size = 0 := by rw [mayB_zero] at h; simpa using h
      obtain rfl : v = ⟨#[]⟩ := str_ext (List.eq_nil_of_length_eq_zero (by rw [len_data]; exact hv))
      rw [verOf_nil]
      exact ⟨RdS.nil _ _, rfl, by decide⟩
theorem RdS.fresh {w' : World} {A : Option Addr} {n cap b : Nat} {xs : List Int} (h : Reads w' w'.heap.size (.slice A n cap) (ints xs)) (hl : ∀ ad, A = some ad → b ≤ ad.block ∧ ad.block < w'.heap.size) : RdS w' (fun g => b ≤ g) (.slice A n cap) xs.length (ints xs) := by
  obtain ⟨A', cap', e, h1, h2, h3, h4⟩ := h
  rw [ints_len] at e h1 h4
  cases e
  exact ⟨A, cap, rfl, h1, h2, h3, fun hn => by
    obtain ⟨ad, e2, hb, hc⟩ := h4 hn
    exact ⟨ad, e2, hb, (hl ad e2).1, hc⟩⟩
set_option maxRecDepth 100000 in
set_option maxHeartbeats 800000 in
theorem bounded_pos (o : Nat) (h0 : o ≠ 0) (v : ByteArray) (w : World) (hv : v.size ≤ 1000000) : Calls Tryd.prog 40 #[.agg #[.int .u8 (o : Int), .string v]] w (Bounded (o, v) w) := by
  have HM := Lib.hid (mayB_pos o v h0)
  have hne : ((o : Int) == 0) = false := by rw [beq_eq_false_iff_ne]; omega
  clear h0
  go_enter Tryd.func40, Tryd.ntmps40
  go_upto_region 3 with (fail)
  obtain ⟨W1, hW1, hg0, hg1, hb1, hz1⟩ := rows2 w (.cells #[.int .u8 (o : Int), .string v] 45) (.cells #[.slice none 0 0, .string ⟨#[]⟩] 65)
  rw [← hW1]
  clear hW1
  obtain ⟨hc0, hc1, _, _⟩ := cell_two hg0
  have HZ := Lib.hid hz1
  have HB1 := Lib.hid hb1
  clear hz1 hb1
  cases ho : okS v
  · have HO := Lib.hid ho
    have HF := Lib.hid (show mayB (o, v) = false by rw [HM.out, ho, Bool.and_false])
    clear ho
    go_wp2_with fail
    refine (parse_no v _ hv HO.out).mono ?_
    rintro e w2 ⟨rfl, hb2⟩
    have hb := below_step HB1.out hb2 HB1.out.size
    have hlt : w.heap.size + 1 < w2.heap.size := by have := hb2.size; have := HZ.out; omega
    have hg0' := (hb2.block w.heap.size (by have := HZ.out; omega)).trans hg0
    have hg1' := (hb2.block (w.heap.size + 1) (by have := HZ.out; omega)).trans hg1
    go_upto_region 4 with (fail)
    obtain ⟨w3, hw3, hg3, hb23, _, hb3⟩ := row_at w w2 (.cells #[.slice none 0 0, .string ⟨#[]⟩] 65) hb
    rw [← hw3]
    clear hw3 hc0 hc1 hb
    obtain ⟨hc0, hc1, _, _⟩ := cell_two ((hb23.block w.heap.size (by omega)).trans hg0')
    obtain ⟨hd0, hd1, hf0, hf1⟩ := cell_two ((hb23.block (w.heap.size + 1) (by omega)).trans hg1')
    obtain ⟨he0, he1, _, _⟩ := cell_two hg3
    clear hg0 hg1 hg0' hg1' hg3 hb23 hb2
    go_wp2
    all_goals
      refine bodyPost_ret (v := .tuple #[.agg #[.slice none 0 0, .string ⟨#[]⟩], .bool false]) (by simp [results, Tryd.results40, go_sem, hd0, hd1, hf0, hf1]) rfl ⟨_, _, by rw [HF.out], ⟨_, _, _, rfl⟩, ?_, fun h => ?_⟩
      · exact (hb3.setCell (by simp) _).setCell (by simp) _
      · rw [HF.out] at h; cases h
  · have HO := Lib.hid ho
    have HF := Lib.hid (show mayB (o, v) = decide (o ≤ 7) by rw [HM.out, ho, Bool.and_true])
    clear ho
    go_wp2_with fail
    refine (parse_yes v _ hv HO.out).mono ?_
    rintro e w2 ⟨u, t, rfl, hR, htl, htz, hb2, ⟨A, n, cap, rfl, hfr⟩⟩
    have hb := below_step HB1.out hb2 HB1.out.size
    have hlt : w.heap.size + 1 < w2.heap.size := by have := hb2.size; have := HZ.out; omega
    have hg0' := (hb2.block w.heap.size (by have := HZ.out; omega)).trans hg0
    have hg1' := (hb2.block (w.heap.size + 1) (by have := HZ.out; omega)).trans hg1
    have HRF := Lib.hid (RdS.fresh (b := w.heap.size + 2) hR fun ad e => ⟨Nat.le_trans (by have := HZ.out; omega) (hfr ad e).1, (hfr ad e).2⟩)
    clear hR hfr
    have HTL := Lib.hid htl
    clear htl
    go_upto_region 4 with (fail)
    obtain ⟨w3, hw3, hg3, hb23, _, hb3⟩ := row_at w w2 (.cells #[.slice A n cap, .string t] 65) hb
    rw [← hw3]
    clear hw3 hc0 hc1 hb
    obtain ⟨hc0, hc1, _, _⟩ := cell_two ((hb23.block w.heap.size (by omega)).trans hg0')
    obtain ⟨hd0, hd1, hf0, hf1⟩ := cell_two ((hb23.block (w.heap.size + 1) (by omega)).trans hg1')
    obtain ⟨he0, he1, _, _⟩ := cell_two hg3
    have HR3 := Lib.hid (HRF.out.below hb23)
    clear hg0 hg1 hg0' hg1' hg3 hb23 hb2 HRF
    by_cases ho7 : o ≤ 7
    · have ho7' : (o : Int) ≤ 7 := by omega
      have HG := Lib.hid (show mayB (o, v) = true by rw [HF.out, decide_eq_true ho7])
      go_wp2
      refine bodyPost_ret (v := .tuple #[.agg #[.slice A n cap, .string t], .bool true]) (by simp [results, Tryd.results40, go_sem, hd0, hd1, hf0, hf1]) rfl ⟨_, _, by rw [HG.out], ⟨_, _, _, rfl⟩, ?_, fun h => ⟨?_, HTL.out, htz⟩⟩
      · exact (hb3.setCell (by simp) _).setCell (by simp) _
      · refine (HR3.out.keep ⟨by simp, fun b hb hS => ?_⟩).weak fun b _ hS => by omega
        rw [heap_setCell_other _ _ _ _ (by show b ≠ w.heap.size + 1; omega), heap_setCell_other _ _ _ _ (by show b ≠ w.heap.size + 1; omega)]
    · have ho7' : ¬ (o : Int) ≤ 7 := by omega
      have HG := Lib.hid (show mayB (o, v) = false by rw [HF.out, decide_eq_false ho7])
      go_wp2
      refine bodyPost_ret (v := .tuple #[.agg #[.slice A n cap, .string t], .bool false]) (by simp [results, Tryd.results40, go_sem, hd0, hd1, hf0, hf1]) rfl ⟨_, _, by rw [HG.out], ⟨_, _, _, rfl⟩, ?_, fun h => ?_⟩
      · exact (hb3.setCell (by simp) _).setCell (by simp) _
      · rw [HG.out] at h; cases h
end Go.Proofs.YtjckcdemkpmheaaDoor
