/- disk: what DiskSwaps asks (maths). -/
import Derived.Test.YtfgbaigpmhnoaaaDskU
import Derived.Test.YtfgbaigpmhnoaaaDskX
set_option linter.unusedVariables false
set_option linter.unusedSimpArgs false
namespace Go.Proofs.Ytfgbaigpmhnoaaa
open Go.ChangeShapes Go.WideShapes Go.ChangeAt Go.RowKit Go.BigFrame Go.Maps
open Dsk (Fl St Ok get put drop used)

set_option maxRecDepth 100000 in
theorem open_bytesR {H : Type} {enc : TypeId × Value → H} {w : World} {base : Nat} {sp : Nat → Bool} {held : Bool} {r : Reach} {b0 : Nat} {v : Value} {y : DataW H} {ps : List MemPlace} (_lt : ∀ x ∈ ps, x.block < w.heap.size)
    (hval : Value.okWide Try.prog w r b0 29 v) (hd : DataW.Trod enc Try.prog w base sp held 29 v y ps) :
    ∃ (a : Value) (l : List Nat), RB w w.heap.size a l ∧ a = v := by
  obtain ⟨A, n, cap, rfl⟩ := okWide_slice Try.underlying29 hval
  obtain ⟨fuel, hf⟩ := hd
  obtain ⟨l, hl⟩ := trod_bytes1 hf
  exact ⟨_, l, hl, rfl⟩
theorem txt_list (l : List Nat) : txt (fun i => l.getD i 0) l.length = l.map UInt8.ofNat := by
  apply List.ext_getElem?
  intro j
  by_cases hj : j < l.length
  · simp [txt, hj, List.getD]
  · simp [txt, hj]
theorem conv_rb {w : World} {B : Nat} {A : Option Addr} {cap : Nat} {l : List Nat} (hr : Holds w B A l.length (fun i => l.getD i 0)) (hA : A = none → cap = 0) (hc : l.length ≤ cap) (hl : ∀ x ∈ l, x < 256) : (convert 29 9 (.slice A l.length cap)).run Try.prog w = .ok (.string (strOf (l.map UInt8.ofNat))) w := by
  rw [← txt_list]
  refine convert_holds (fun i => ?_) hr hA hc Try.underlying29 Try.underlying5 Try.underlying9
  by_cases hi : i < l.length
  · rw [List.getD_eq_getElem?_getD, List.getElem?_eq_getElem hi]; exact hl _ (List.getElem_mem _)
  · rw [List.getD_eq_getElem?_getD, List.getElem?_eq_none (by omega)]; decide
def nN : ByteArray := ⟨#[102, 46, 110, 101, 119]⟩
def full (l : List Nat) : Fl := ⟨l, l.length, true⟩
structure SInv (S : St) (fs : Dsk.FS) (o : Bool) (c : Nat) : Prop where
  quota : S.quota = 10000
  steps : S.steps ≤ c
  fs : S.fs = fs
  off : S.off = o
theorem step_two (S S2 : St) (puts : Bool) (c : Nat) (hq : S2.quota = 10000) (hs : S2.steps ≤ c) (hq0 : S.quota = 10000) (hs0 : S.steps + 1 ≤ c) (ho : S.off = false) (ho2 : S2.off = false) (ha : S2.armed = S.armed) :
    (stepC S.armed = 40 ∧ SInv (stepEnd S S2 puts) (if puts then S2.fs else S.fs) true c) ∨ (stepC S.armed = 0 ∧ SInv (stepEnd S S2 puts) S2.fs false c) := by
  unfold stepEnd
  by_cases h0 : S.armed = some 0
  · left
    refine ⟨by unfold stepC; rw [if_pos h0], ?_⟩
    cases puts with
    | false =>
      rw [if_pos ⟨h0, rfl⟩]
      exact ⟨hq0, hs0, rfl, rfl⟩
    | true =>
      rw [if_neg (fun h => by cases h.2), stepS_zero (ha.trans h0)]
      exact ⟨hq, hs, rfl, rfl⟩
  · right
    refine ⟨by unfold stepC; rw [if_neg h0], ?_⟩
    rw [if_neg (fun h => h0 h.1)]
    cases hk : S.armed with
    | none => rw [stepS_none (ha.trans hk)]; exact ⟨hq, hs, rfl, ho2⟩
    | some k =>
      cases k with
      | zero => exact absurd hk h0
      | succ k => rw [stepS_succ (ha.trans hk)]; exact ⟨hq, hs, rfl, ho2⟩
theorem refC_n {S : St} (h : S.off = false) : refC S [nN] = 0 := by
  unfold refC
  rw [if_neg (by rw [h]; simp)]
  rfl
theorem refC_nf {S : St} (h : S.off = false) : refC S [nN, nF] = 0 := by
  unfold refC
  rw [if_neg (by rw [h]; simp)]
  rfl
theorem append_ok {S : St} {s : ByteArray} {l : List Nat} (hr : refC S [s] = 0) (h1 : (getF S.fs s).b.length + l.length ≤ 8388608) (h2 : (used S.fs : Int) + (l.length : Int) ≤ S.quota) : appendS S s l = appS S s l ∧ appendC S s l = stepC S.armed := by
  unfold appendS appendC
  rw [if_neg (by simp [hr]), if_neg (by omega), if_neg (by omega), if_neg (by simp [hr]), if_neg (by omega), if_neg (by omega)]
  exact ⟨rfl, rfl⟩
theorem swap_start (o : List Nat) (ho : o.length ≤ 2000) : appendC ⟨10000, [], 0, none, false⟩ nF o = 0 ∧ SInv (appendS ⟨10000, [], 0, none, false⟩ nF o) [(nF, ⟨o, 0, false⟩)] false 1 ∧ (appendS ⟨10000, [], 0, none, false⟩ nF o).armed = none := by
  obtain ⟨e1, e2⟩ := append_ok (S := ⟨10000, [], 0, none, false⟩) (s := nF) (l := o) rfl (by simp [getF, Dsk.get, noFl]; omega) (by simp [Dsk.used]; omega)
  rw [e1, e2]
  exact ⟨rfl, ⟨rfl, Nat.le_refl _, by simp [appS, stepEnd, stepS, plus1, Dsk.put, grow1, getF, Dsk.get, noFl], rfl⟩, rfl⟩
theorem swap_sync0 {S : St} {o : List Nat} (h : SInv S [(nF, ⟨o, 0, false⟩)] false 1) (ha : S.armed = none) : syncC S nF = 0 ∧ SInv (syncS S nF) [(nF, full o)] false 2 := by
  have hr := refC_f h.off
  have hg : get S.fs nF = some ⟨o, 0, false⟩ := by rw [h.fs]; simp [Dsk.get]
  unfold syncC syncS
  rw [if_neg (by simp [hr]), if_neg (by simp [hr]), hg]
  dsimp only
  rcases step_two S { plus1 S with fs := put S.fs nF (settleF ⟨o, 0, false⟩) } false 2 h.quota (by have := h.steps; show S.steps + 1 ≤ 2; omega) h.quota (by have := h.steps; omega) h.off h.off rfl with ⟨e1, _⟩ | ⟨e1, e2⟩
  · rw [ha] at e1; cases e1
  · refine ⟨e1, ?_⟩
    rw [show (put S.fs nF (settleF ⟨o, 0, false⟩)) = [(nF, full o)] by rw [h.fs]; simp [Dsk.put, settleF, full]] at e2 ⊢
    exact e2
theorem ltFN : Dsk.ltB nF nN = true := by decide
theorem ltNF : Dsk.ltB nN nF = false := by decide
theorem neFN : nF ≠ nN := by decide
theorem swap_append {S : St} {o l : List Nat} (h : SInv S [(nF, full o)] false 2) (ho : o.length ≤ 2000) (hl : l.length ≤ 2000) :
    (appendC S nN l = 40 ∧ SInv (appendS S nN l) [(nF, full o), (nN, ⟨l, 0, false⟩)] true 3) ∨ (appendC S nN l = 0 ∧ SInv (appendS S nN l) [(nF, full o), (nN, ⟨l, 0, false⟩)] false 3) := by
  have hgF : getF S.fs nN = noFl := by rw [h.fs]; simp [getF, Dsk.get, neFN]
  have hus : used S.fs = o.length := by rw [h.fs]; simp [Dsk.used, full]
  obtain ⟨e1, e2⟩ := append_ok (S := S) (s := nN) (l := l) (refC_n h.off) (by rw [hgF]; simp [noFl]; omega) (by rw [hus, h.quota]; omega)
  have hp : put S.fs nN (grow1 (getF S.fs nN) l) = [(nF, full o), (nN, ⟨l, 0, false⟩)] := by rw [hgF, h.fs]; simp [Dsk.put, neFN, ltNF, grow1, noFl]
  rw [e1, e2]
  unfold appS
  have := step_two S { plus1 S with fs := put S.fs nN (grow1 (getF S.fs nN) l) } true 3 h.quota (by have := h.steps; show S.steps + 1 ≤ 3; omega) h.quota (by have := h.steps; omega) h.off h.off rfl
  rw [hp] at this ⊢
  exact this
theorem swap_sync {S : St} {o l : List Nat} (h : SInv S [(nF, full o), (nN, ⟨l, 0, false⟩)] false 3) :
    (syncC S nN = 40 ∧ SInv (syncS S nN) [(nF, full o), (nN, ⟨l, 0, false⟩)] true 4) ∨ (syncC S nN = 0 ∧ SInv (syncS S nN) [(nF, full o), (nN, full l)] false 4) := by
  have hr := refC_n h.off
  have hg : get S.fs nN = some ⟨l, 0, false⟩ := by rw [h.fs]; simp [Dsk.get, neFN]
  have hp : put S.fs nN (settleF ⟨l, 0, false⟩) = [(nF, full o), (nN, full l)] := by rw [h.fs]; simp [Dsk.put, neFN, ltNF, settleF, full]
  unfold syncC syncS
  rw [if_neg (by simp [hr]), if_neg (by simp [hr]), hg]
  dsimp only
  have := step_two S { plus1 S with fs := put S.fs nN (settleF ⟨l, 0, false⟩) } false 4 h.quota (by have := h.steps; show S.steps + 1 ≤ 4; omega) h.quota (by have := h.steps; omega) h.off h.off rfl
  rw [hp] at this ⊢
  rw [h.fs] at this
  exact this
theorem swap_rename {S : St} {o l : List Nat} (h : SInv S [(nF, full o), (nN, full l)] false 4) :
    (renameC S nN nF = 40 ∧ SInv (renameS S nN nF) [(nF, full o), (nN, full l)] true 5) ∨ (renameC S nN nF = 0 ∧ SInv (renameS S nN nF) [(nF, full l)] false 5) := by
  have hr := refC_nf h.off
  have hg : get S.fs nN = some (full l) := by rw [h.fs]; simp [Dsk.get, neFN]
  have hp : renFs S.fs nN nF (full l) = [(nF, full l)] := by
    unfold renFs
    rw [if_neg (Ne.symm neFN), h.fs]
    simp [Dsk.put, Dsk.drop, neFN, Ne.symm neFN, ltNF, settleF, full]
  unfold renameC renameS
  rw [if_neg (by simp [hr]), if_neg (by simp [hr]), hg]
  dsimp only
  have := step_two S { plus1 S with fs := renFs S.fs nN nF (full l) } false 5 h.quota (by have := h.steps; show S.steps + 1 ≤ 5; omega) h.quota (by have := h.steps; omega) h.off h.off rfl
  rw [hp] at this ⊢
  rw [h.fs] at this
  exact this
theorem recF_full (l : List Nat) (k : Int) : recF (full l) k = full l := by
  have : staysN k (l.length - l.length) = 0 := by have := staysN_le k (l.length - l.length); omega
  unfold recF full
  dsimp only
  rw [this]
  simp
theorem swap_last {S : St} {l : List Nat} {R : Dsk.FS} (ks : List Int) (hf : S.fs = (nF, full l) :: R) (ho : S.off = true) : readC (onS S ks) nF = 0 ∧ readB (onS S ks) nF = l := by
  have hoff : (onS S ks).off = false := by unfold onS; rw [if_pos ho]
  have hr := refC_f hoff
  have hfs : (onS S ks).fs = (nF, full l) :: recAll ks 1 R := by
    unfold onS
    rw [if_pos ho]
    show recAll ks 0 S.fs = _
    rw [hf]
    show (if (recF (full l) (ks.getD 0 0)).sure = 0 ∧ (full l).ever = false then recAll ks 1 R else (nF, recF (full l) (ks.getD 0 0)) :: recAll ks 1 R) = _
    rw [recF_full, if_neg (by simp [full])]
  unfold readC readB
  rw [if_neg (by simp [hr]), if_neg (by simp [hr]), hfs]
  simp [Dsk.get, getF, full]
end Go.Proofs.Ytfgbaigpmhnoaaa
