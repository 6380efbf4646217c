/- Contracts of Texts, of version and of its reference. -/
import Derived.Test.YtjckcdemkpmheaaDoorRngJ
namespace Go.Proofs.YtjckcdemkpmheaaDoor
open Go.RowKit Go.BigFrame
open Ver (prs cmpV BL)

def toI (ns : List Nat) : List Int := List.map (fun n : Nat => (n : Int)) ns
theorem vI_ints (ns : List Nat) : ns.map vI = ints (toI ns) := by simp [ints, toI, vI]
def verOf (s : ByteArray) : List Int × BL := match prs s.data.toList with
  | none => ([], [])
  | some v => (toI v.1, v.2)
def okS (s : ByteArray) : Bool := (prs s.data.toList).isSome
/-- What Parse's result reads as. -/
def ParsedYes (s : ByteArray) (w : World) (e : Ending) (w' : World) : Prop :=
  ∃ v t, e = .returned (.tuple #[.agg #[v, .string t], .int .i64 0]) ∧ Reads w' w'.heap.size v (ints (verOf s).1) ∧ t.data.toList = (verOf s).2 ∧ t.size ≤ 16 ∧ Below w.heap.size w w' ∧ (∃ A n cap, v = .slice A n cap ∧ ∀ ad, A = some ad → w.heap.size ≤ ad.block ∧ ad.block < w'.heap.size)
theorem parsed_yes {s : ByteArray} {w : World} {e : Ending} {w' : World} (h : Prs s w e w') (ho : okS s = true) : ParsedYes s w e w' := by
  unfold Prs at h
  unfold okS at ho
  unfold ParsedYes verOf
  cases hp : prs s.data.toList with
  | none => rw [hp] at ho; cases ho
  | some v =>
    rw [hp] at h
    obtain ⟨ns, t⟩ := v
    obtain ⟨v, he, hown, hb⟩ := h
    have hok := (Ver.prs_some _ _ _ hp).2
    have hR := Reads.own hown
    rw [vI_ints] at hR
    refine ⟨v, ⟨t.toArray⟩, he, hR, by simp, ?_, hb, ?_⟩
    · simp only [Ver.okV, Bool.and_eq_true, Ver.okTag, decide_eq_true_eq] at hok
      have := hok.2.1
      simpa [ByteArray.size] using this
    · rcases hown.2 with ⟨e1, e2⟩ | ⟨g, cap, cur, e1, hg, hgg, _⟩
      · exact ⟨none, 0, 0, e1, fun ad h => by cases h⟩
      · exact ⟨_, _, cap, e1, fun ad h => by cases h; exact ⟨hg, block_lt hgg⟩⟩
theorem parsed_no {s : ByteArray} {w : World} {e : Ending} {w' : World} (h : Prs s w e w') (ho : okS s = false) : ParseNo w e w' := by
  unfold Prs at h
  unfold okS at ho
  cases hp : prs s.data.toList with
  | none => rw [hp] at h; exact h
  | some v => rw [hp] at ho; cases ho
theorem parse_yes (s : ByteArray) (w : World) (hs : s.size ≤ 1000000) (h : okS s = true) : Calls Tryd.prog 36 #[.string s] w (ParsedYes s w) :=
  (parse_any s w (by unfold maxLen; omega)).mono fun _ _ hp => parsed_yes hp h
theorem parse_no (s : ByteArray) (w : World) (hs : s.size ≤ 1000000) (h : okS s = false) : Calls Tryd.prog 36 #[.string s] w (ParseNo w) :=
  (parse_any s w (by unfold maxLen; omega)).mono fun _ _ hp => parsed_no hp h
theorem refParse_yes (s : ByteArray) (w : World) (hs : s.size ≤ 1000000) (h : okS s = true) : Calls Tryd.prog 33 #[.string s] w (ParsedYes s w) :=
  (refParse_any s w hs).mono fun _ _ hp => parsed_yes hp h
theorem refParse_no (s : ByteArray) (w : World) (hs : s.size ≤ 1000000) (h : okS s = false) : Calls Tryd.prog 33 #[.string s] w (ParseNo w) :=
  (refParse_any s w hs).mono fun _ _ hp => parsed_no hp h
def cmpS (s t : ByteArray) : Int := if okS s = true ∧ okS t = true then cmpV (verOf s) (verOf t) else 0
def okST (s t : ByteArray) : Bool := okS s && okS t
/-- One new block. -/
theorem row_at (w0 w : World) (o : Obj) (hb : Below w0.heap.size w0 w) : ∃ w1, w1 = w.alloc o ∧ w1.heap[w.heap.size]? = some o ∧ Below w.heap.size w w1 ∧ w1.heap.size = w.heap.size + 1 ∧ Below w0.heap.size w0 w1 :=
  ⟨_, rfl, heap_alloc_new w o, (Below.refl _ _).alloc (Nat.le_refl _) o, by simp, hb.alloc hb.size o⟩
set_option maxRecDepth 100000 in
set_option maxHeartbeats 800000 in
theorem texts_any (s t : ByteArray) (w : World) (hs : s.size ≤ 1000000) (ht : t.size ≤ 1000000) :
    Calls Tryd.prog 20 #[.string s, .string t] w fun e w' => e = .returned (.tuple #[.int .i64 (cmpS s t), .bool (okST s t)]) ∧ Below w.heap.size w w' := by
  cases ho : okS s
  · have HF := Lib.hid (show cmpS s t = 0 ∧ okST s t = false by unfold cmpS okST; rw [ho]; simp)
    have HO := Lib.hid ho
    clear ho
    go_enter Tryd.func20, Tryd.ntmps20
    go_wp2_with fail
    refine (parse_no s _ hs HO.out).mono ?_
    rintro e w1 ⟨rfl, hb1⟩
    go_upto_region 2 with (fail)
    obtain ⟨w2, hw2, hg2, hb12, hz2, hb2⟩ := row_at w w1 (.cells #[.slice none 0 0, .string ⟨#[]⟩] 65) hb1
    rw [← hw2]
    clear hw2 hb12 hz2 hg2
    cases ho2 : okS t
    · have HO2 := Lib.hid ho2
      clear ho2
      go_wp2_with fail
      refine (parse_no t _ ht HO2.out).mono ?_
      rintro e w3 ⟨rfl, hb3⟩
      go_wp2
      go_ret2
      exact ⟨ret_pair HF.out.1.symm HF.out.2.symm, (below_step hb2 hb3 hb2.size).alloc (Nat.le_trans hb2.size hb3.size) _⟩
    · have HO2 := Lib.hid ho2
      clear ho2
      go_wp2_with fail
      refine (parse_yes t _ ht HO2.out).mono ?_
      rintro e w3 ⟨v, t', rfl, hR, _, _, hb3, ⟨A, n, cap, rfl, _⟩⟩
      clear hR
      go_wp2
      go_ret2
      exact ⟨ret_pair HF.out.1.symm HF.out.2.symm, (below_step hb2 hb3 hb2.size).alloc (Nat.le_trans hb2.size hb3.size) _⟩
  · have HO := Lib.hid ho
    go_enter Tryd.func20, Tryd.ntmps20
    go_wp2_with fail
    refine (parse_yes s _ hs HO.out).mono ?_
    rintro e w1 ⟨v, s', rfl, hR, hsl, hsz, hb1, ⟨A, n, cap, rfl, _⟩⟩
    go_upto_region 2 with (fail)
    obtain ⟨w2, hw2, hg2, hb12, hz2, hb2⟩ := row_at w w1 (.cells #[.slice A n cap, .string s'] 65) hb1
    rw [← hw2]
    have HR2 := Lib.hid ((hR.below hb12).more hb12.size)
    have HSL := Lib.hid hsl
    clear hw2 hR hsl hb12
    cases ho2 : okS t
    · have HO2 := Lib.hid ho2
      have HF := Lib.hid (show cmpS s t = 0 ∧ okST s t = false by unfold cmpS okST; rw [ho, ho2]; simp)
      clear ho2 ho
      go_wp2_with fail
      refine (parse_no t _ ht HO2.out).mono ?_
      rintro e w3 ⟨rfl, hb3⟩
      go_wp2
      go_ret2
      exact ⟨ret_pair HF.out.1.symm HF.out.2.symm, (below_step hb2 hb3 hb2.size).alloc (Nat.le_trans hb2.size hb3.size) _⟩
    · have HO2 := Lib.hid ho2
      have HF := Lib.hid (show cmpS s t = cmpV (verOf s) (verOf t) ∧ okST s t = true by unfold cmpS okST; rw [ho, ho2]; simp)
      clear ho2 ho
      go_wp2_with fail
      refine (parse_yes t _ ht HO2.out).mono ?_
      rintro e w3 ⟨v2, t', rfl, hR, htl, htz, hb3, ⟨A', n', cap', rfl, _⟩⟩
      go_upto_region 3 with (fail)
      have hb23 := below_step hb2 hb3 hb2.size
      obtain ⟨w4, hw4, hg4, hb34, hz4, hb4⟩ := row_at w w3 (.cells #[.slice A' n' cap', .string t'] 65) hb23
      rw [← hw4]
      have hg2' := (hb34.block w1.heap.size (by have := hb3.size; omega)).trans ((hb3.block w1.heap.size (by omega)).trans hg2)
      obtain ⟨hc0, hc1, _, _⟩ := cell_two hg2'
      obtain ⟨hd0, hd1, _, _⟩ := cell_two hg4
      have HR4 := Lib.hid (((HR2.out.below hb3).more hb3.size).below hb34)
      have HR4' := Lib.hid (hR.below hb34)
      have HTL := Lib.hid htl
      have hzz := hb34.size
      have HFF := Lib.hid (show cmpV ((verOf s).1, s'.data.toList) ((verOf t).1, t'.data.toList) = cmpS s t by rw [HF.out.1, HSL.out, HTL.out])
      clear hw4 hR htl hg2 hg2' hg4 hb3 hb23 hz4 hz2
      go_wp2_with (go_at_call 37; refine (compare_any _ _ _ _ s' t' w3.heap.size _ HR4.out HR4'.out hzz (by omega) (by omega)).mono ?_; rintro e w5 ⟨rfl, hb5⟩)
      go_ret2
      exact ⟨ret_pair HFF.out HF.out.2.symm, below_step hb4 hb5.below hb4.size⟩
set_option maxRecDepth 100000 in
set_option maxHeartbeats 800000 in
theorem refTexts_any (s t : ByteArray) (w : World) (hs : s.size ≤ 1000000) (ht : t.size ≤ 1000000) :
    Calls Tryd.prog 35 #[.string s, .string t] w fun e w' => e = .returned (.tuple #[.int .i64 (cmpS s t), .bool (okST s t)]) ∧ Below w.heap.size w w' := by
  cases ho : okS s
  · have HF := Lib.hid (show cmpS s t = 0 ∧ okST s t = false by unfold cmpS okST; rw [ho]; simp)
    have HO := Lib.hid ho
    clear ho
    go_enter Tryd.func35, Tryd.ntmps35
    go_wp2_with fail
    refine (refParse_no s _ hs HO.out).mono ?_
    rintro e w1 ⟨rfl, hb1⟩
    go_upto_region 2 with (fail)
    obtain ⟨w2, hw2, hg2, hb12, hz2, hb2⟩ := row_at w w1 (.cells #[.slice none 0 0, .string ⟨#[]⟩] 61) hb1
    rw [← hw2]
    clear hw2 hb12 hz2 hg2
    cases ho2 : okS t
    · have HO2 := Lib.hid ho2
      clear ho2
      go_wp2_with fail
      refine (refParse_no t _ ht HO2.out).mono ?_
      rintro e w3 ⟨rfl, hb3⟩
      go_wp2
      go_ret2
      exact ⟨ret_pair HF.out.1.symm HF.out.2.symm, (below_step hb2 hb3 hb2.size).alloc (Nat.le_trans hb2.size hb3.size) _⟩
    · have HO2 := Lib.hid ho2
      clear ho2
      go_wp2_with fail
      refine (refParse_yes t _ ht HO2.out).mono ?_
      rintro e w3 ⟨v, t', rfl, hR, _, _, hb3, ⟨A, n, cap, rfl, _⟩⟩
      clear hR
      go_wp2
      go_ret2
      exact ⟨ret_pair HF.out.1.symm HF.out.2.symm, (below_step hb2 hb3 hb2.size).alloc (Nat.le_trans hb2.size hb3.size) _⟩
  · have HO := Lib.hid ho
    go_enter Tryd.func35, Tryd.ntmps35
    go_wp2_with fail
    refine (refParse_yes s _ hs HO.out).mono ?_
    rintro e w1 ⟨v, s', rfl, hR, hsl, hsz, hb1, ⟨A, n, cap, rfl, _⟩⟩
    go_upto_region 2 with (fail)
    obtain ⟨w2, hw2, hg2, hb12, hz2, hb2⟩ := row_at w w1 (.cells #[.slice A n cap, .string s'] 61) hb1
    rw [← hw2]
    have HR2 := Lib.hid ((hR.below hb12).more hb12.size)
    have HSL := Lib.hid hsl
    clear hw2 hR hsl hb12
    cases ho2 : okS t
    · have HO2 := Lib.hid ho2
      have HF := Lib.hid (show cmpS s t = 0 ∧ okST s t = false by unfold cmpS okST; rw [ho, ho2]; simp)
      clear ho2 ho
      go_wp2_with fail
      refine (refParse_no t _ ht HO2.out).mono ?_
      rintro e w3 ⟨rfl, hb3⟩
      go_wp2
      go_ret2
      exact ⟨ret_pair HF.out.1.symm HF.out.2.symm, (below_step hb2 hb3 hb2.size).alloc (Nat.le_trans hb2.size hb3.size) _⟩
    · have HO2 := Lib.hid ho2
      have HF := Lib.hid (show cmpS s t = cmpV (verOf s) (verOf t) ∧ okST s t = true by unfold cmpS okST; rw [ho, ho2]; simp)
      clear ho2 ho
      go_wp2_with fail
      refine (refParse_yes t _ ht HO2.out).mono ?_
      rintro e w3 ⟨v2, t', rfl, hR, htl, htz, hb3, ⟨A', n', cap', rfl, _⟩⟩
      go_upto_region 3 with (fail)
      have hb23 := below_step hb2 hb3 hb2.size
      obtain ⟨w4, hw4, hg4, hb34, hz4, hb4⟩ := row_at w w3 (.cells #[.slice A' n' cap', .string t'] 61) hb23
      rw [← hw4]
      have hg2' := (hb34.block w1.heap.size (by have := hb3.size; omega)).trans ((hb3.block w1.heap.size (by omega)).trans hg2)
      obtain ⟨hc0, hc1, _, _⟩ := cell_two hg2'
      obtain ⟨hd0, hd1, _, _⟩ := cell_two hg4
      have HR4 := Lib.hid (((HR2.out.below hb3).more hb3.size).below hb34)
      have HR4' := Lib.hid (hR.below hb34)
      have HTL := Lib.hid htl
      have hzz := hb34.size
      have HFF := Lib.hid (show cmpV ((verOf s).1, s'.data.toList) ((verOf t).1, t'.data.toList) = cmpS s t by rw [HF.out.1, HSL.out, HTL.out])
      clear hw4 hR htl hg2 hg2' hg4 hb3 hb23 hz4 hz2
      go_wp2_with (go_at_call 51; refine (refCompare_any _ _ _ _ s' t' w3.heap.size _ HR4.out HR4'.out hzz (by omega) (by omega)).mono ?_; rintro e w5 ⟨rfl, hb5⟩)
      go_ret2
      exact ⟨ret_pair HFF.out HF.out.2.symm, below_step hb4 hb5 hb4.size⟩
/-- What lay below block B in a world lies there still. -/
def KeepW (W1 : World) (B : Nat) (w' : World) : Prop := Below B W1 w' ∧ B ≤ w'.heap.size
theorem KeepW.start {W : World} {B : Nat} (h : B ≤ W.heap.size) : KeepW W B W := ⟨Below.refl _ _, h⟩
theorem KeepW.drew {W1 w' : World} {B : Nat} (h : KeepW W1 B w') : KeepW W1 B w'.drew := ⟨h.1.drew, h.2⟩
theorem KeepW.step {W1 w' w2 : World} {B : Nat} (h : KeepW W1 B w') (h2 : Below w'.heap.size w' w2) : KeepW W1 B w2 := ⟨below_step h.1 h2 h.2, Nat.le_trans h.2 h2.size⟩
theorem KeepW.calls {P : Program} {f : FuncId} {args : Array Value} {v : Value} {W1 w' : World} {B : Nat} (h : KeepW W1 B w') (hc : Calls P f args w' fun e w2 => e = .returned v ∧ Below w'.heap.size w' w2) : Calls P f args w' fun e w2 => e = .returned v ∧ KeepW W1 B w2 :=
  hc.mono fun _ _ ⟨he, hb⟩ => ⟨he, h.step hb⟩
theorem Reads.form {w : World} {B : Nat} {v : Value} {xs : List Int} (h : Reads w B v (ints xs)) : ∃ A cap, v = .slice A xs.length cap := by
  obtain ⟨A, cap, e, _⟩ := h; rw [ints_len] at e; exact ⟨A, cap, e⟩
theorem bool_eqs (b : Bool) : (b == b) = true := by cases b <;> rfl
end Go.Proofs.YtjckcdemkpmheaaDoor
