/- catalogue: the iterators over words and lines. -/
import Derived.Test.YtcnedecmmplmoaaGreatDoorCm23
import Derived.RangeFuncNested
import Derived.RangeFuncBound
import Derived.RangeFuncCalls
import Derived.RangeFuncLeaves
import Derived.Shelf.Abstract
import Derived.Shelf.RegionOpen
import Derived.WalkKit
import Derived.OwnWalkIn
import Derived.TacticsInMore
import Derived.LoopNIn
import Derived.LoopIn
set_option linter.unusedVariables false
set_option linter.unusedSimpArgs false
namespace Go.Proofs.YtcnedecmmplmoaaGreatDoor
open Go Go.RowKit Go.BigFrame
open Ver (cmpV BL parts brk)
attribute [local go_sem] Oper.semAt_some

/-- What a round keeps, for the iterator: the text's box. -/
def KpB (bn : Nat) (W W' : World) : Prop := W'.heap[bn]? = W.heap[bn]?
theorem KpB.trans {bn : Nat} {X Y Z : World} (h : KpB bn X Y) (k : KpB bn Y Z) : KpB bn X Z := Eq.trans k h
theorem grown_drewN (W : World) (q : Nat) : W.grownBy (W.drewN q) none := by
  have h := below_drewN (Below.refl W.heap.size W) q
  exact ⟨h.os, h.tape, h.output, h.size, fun k hk _ => h.block k hk⟩
def msrW : Value → Value → Nat
  | .string s, .bool true => s.size + 1
  | _, _ => 0
set_option maxRecDepth 100000 in
set_option maxHeartbeats 2000000 in
theorem words_stops (n : Nat) (hn : 2 ≤ n) (w : World) (bn : Nat) (s : ByteArray) (hs : s.size ≤ maxLen) (hb : w.heap[bn]? = some (.cells #[.string s] 9 (0, 0))) :
    SeqStopsB bn Fence.wide n Tryz.prog 87 #[.pointer (some ⟨bn, 0, none⟩)] (fun x : ByteArray => #[.string x]) (KpB bn)
      (fun xs => xs = wrdB s) (fun pre => pre <+: wrdB s) (wrdB s).length w := by
  intro l J Jx W hW hJ hJx hY h0
  have hro : Fence.wide.round = none := rfl
  have hbW : W.heap[bn]? = some (.cells #[.string s] 9 (0, 0)) := (hW.block bn (block_lt hb)).trans hb
  have hc0 : W.cell? ⟨bn, 0, none⟩ = some (.string s) := by rw [cell_of_row _ _ _ _ _ _ hbW]; rfl
  have HY := Lib.hid hY
  have HJ := Lib.hid hJ
  have HS := Lib.hid hs
  clear hY hJ hJx hbW hW hs
  refine callsIn_of_wp Tryz.func87 rfl trivial ?_ hro
  simp only [Tryz.ntmps87, List.size_toArray, List.length_cons, List.length_nil, Nat.reduceAdd, Nat.reduceSub, Array.replicate_succ, Array.replicate_zero, List.push_toArray, List.append_toArray, List.nil_append, List.cons_append]
  gi_wp2
  clear hc0
  gi_loopw [3, 4] (fun r m wr => ∃ (t : ByteArray) (b : Bool) (pre : List ByteArray), r = .string t ∧ m = .bool b ∧ Hid (pre ++ (if b = true then wrdB t else []) = wrdB s) ∧ Hid (t.size ≤ maxLen) ∧ Hid (J pre wr)) (fun r m _ => msrW r m)
  case atStart => exact ⟨s, true, [], rfl, rfl, Lib.hid rfl, HS, Lib.hid h0⟩
  case round =>
    obtain ⟨t, b, pre, rfl, rfl, HP, HT, HJr⟩ := hrel
    cases b with
    | false =>
      have HE := Lib.hid (show pre = wrdB s by have := HP.out; simpa using this)
      gi_wp2
      go_end0
      exact ⟨⟨_, rfl⟩, .inl ⟨pre, HE.out, HJr.out⟩⟩
    | true =>
      obtain ⟨bf, hbf⟩ : ∃ bf, bF 32 t = bf := ⟨_, rfl⟩
      have HCUT := Lib.hid (fun (w : World) => (callsIn_wide (n := n - 1)).2 (cut_is bf 32 t w HT.out hbf))
      obtain ⟨x, hx⟩ : ∃ x, x = bA 32 t := ⟨_, rfl⟩
      obtain ⟨r, hr⟩ : ∃ r, r = bR 32 t := ⟨_, rfl⟩
      have HX := Lib.hid (show (pre ++ [x]) ++ (if bf = true then wrdB r else []) = wrdB s by
        have h1 := HP.out
        rw [if_pos rfl] at h1
        cases bf with
        | true => rw [wrd_yes t hbf, ← hx, ← hr] at h1; simpa using h1
        | false =>
          have h2 := (cut_no 32 t hbf).1
          rw [wrd_no t hbf, ← h2, ← hx] at h1; simpa using h1)
      have HRS := Lib.hid (show r.size ≤ maxLen by rw [hr]; exact Nat.le_trans (bR_le 32 t) HT.out)
      have HLT := Lib.hid (show bf = true → r.size < t.size by
        intro h
        rw [hr]
        refine bR_lt 32 t (fun h0 => ?_)
        have h3 : t.data.toList = [] := by rw [← List.length_eq_zero_iff, len_data]; exact h0
        rw [h] at hbf
        have h4 : (brk 32 t.data.toList).2.2 = true := hbf
        rw [h3] at h4; cases h4)
      rw [← hx, ← hr] at HCUT
      have HPF := Lib.hid (show pre ++ [x] <+: wrdB s from ⟨_, HX.out⟩)
      have hlen : pre.length < (wrdB s).length := by have := HPF.out.length_le; simp at this; omega
      clear hbf hx hr
      gi_wp2_with (refine ⟨trivial, fun _ => by omega, (HCUT.out _).mono ?_⟩; rintro e W2 ⟨rfl, nq, rfl⟩)
      have hJ2 := HJ.out _ _ _ none HJr.out (grown_drewN wr nq) (fun r e => by cases e)
      obtain ⟨fn, tmps, assign, body, hy, hR⟩ := HY.out pre x (wr.drewN nq) hJ2 hlen HPF.out
      clear hJ2
      rw [hy]
      gi_wp2
      refine ⟨fun _ => by omega, hR.mono ?_⟩
      rintro e W3 (⟨rfl, hJ3, hk3⟩ | ⟨rfl, hJx3⟩)
      · gi_wp2
        go_roundw
        case rel => exact ⟨r, bf, pre ++ [x], rfl, rfl, HX, HRS, Lib.hid hJ3⟩
        case measure =>
          have := HLT.out
          cases bf <;> simp [msrW] at this ⊢
          omega
      · gi_wp2
        refine bodyPost_ret (results_none rfl _ _ _) rfl ?_
        exact ⟨⟨_, rfl⟩, .inr ⟨pre ++ [x], HPF.out, hJx3⟩⟩
def msrL (bn : Nat) (W : World) : Nat := match W.cell? ⟨bn, 0, none⟩ with | some (.string t) => t.size | _ => 0
set_option maxRecDepth 100000 in
set_option maxHeartbeats 2000000 in
theorem lines_stops (n : Nat) (hn : 2 ≤ n) (w : World) (bn : Nat) (s : ByteArray) (hs : s.size ≤ maxLen) (hb : w.heap[bn]? = some (.cells #[.string s] 9 (0, 0))) :
    SeqStopsB bn Fence.wide n Tryz.prog 75 #[.pointer (some ⟨bn, 0, none⟩)] (fun x : ByteArray => #[.string x]) (KpB bn)
      (fun xs => xs = lnsB s) (fun pre => pre <+: lnsB s) (lnsB s).length w := by
  intro l J Jx W hW hJ hJx hY h0
  have hro : Fence.wide.round = none := rfl
  have hbW : W.heap[bn]? = some (.cells #[.string s] 9 (0, 0)) := (hW.block bn (block_lt hb)).trans hb
  have HB := Lib.hid hbW
  have HY := Lib.hid hY
  have HJ := Lib.hid hJ
  have HS := Lib.hid hs
  clear hY hJ hJx hbW hW hs
  refine callsIn_of_wp Tryz.func75 rfl trivial ?_ hro
  simp only [Tryz.ntmps75, List.size_toArray, List.length_cons, List.length_nil, Nat.reduceAdd, Nat.reduceSub, Array.replicate_succ, Array.replicate_zero, List.push_toArray, List.append_toArray, List.nil_append, List.cons_append]
  gi_wp2
  gi_loopw [3] (fun _ wr => ∃ (t : ByteArray) (pre : List ByteArray), Hid (pre ++ lnsB t = lnsB s) ∧ Hid (t.size ≤ maxLen) ∧ Hid (wr.heap[bn]? = some (.cells #[.string t] 9 (0, 0))) ∧ Hid (J pre wr)) (fun _ wr => msrL bn wr)
  case atStart => exact ⟨s, [], Lib.hid rfl, HS, HB, Lib.hid h0⟩
  case round =>
    obtain ⟨t, pre, HP, HT, HBr, HJr⟩ := hrel
    have hc : wr.cell? ⟨bn, 0, none⟩ = some (.string t) := by rw [cell_of_row _ _ _ _ _ _ HBr.out]; rfl
    by_cases hz : t.size = 0
    · obtain ⟨hem, hem2, hem3⟩ := empty_yes t hz
      have HE := Lib.hid (show pre = lnsB s by have := HP.out; rw [lns_nil t hz] at this; simpa using this)
      gi_wp2
      go_end0
      exact ⟨⟨_, rfl⟩, .inl ⟨pre, HE.out, HJr.out⟩⟩
    · obtain ⟨hem, hem2, hem3⟩ := empty_no t hz
      obtain ⟨bf, hbf⟩ : ∃ bf, bF 10 t = bf := ⟨_, rfl⟩
      have HCUT := Lib.hid (fun (w : World) => (callsIn_wide (n := n - 1)).2 (cut_is bf 10 t w HT.out hbf))
      obtain ⟨x, hx⟩ : ∃ x, x = bA 10 t := ⟨_, rfl⟩
      obtain ⟨r, hr⟩ : ∃ r, r = bR 10 t := ⟨_, rfl⟩
      have HX := Lib.hid (show (pre ++ [x]) ++ lnsB r = lnsB s by
        have h1 := HP.out
        rw [lns_cons t hz, ← hx, ← hr] at h1; simpa using h1)
      have HRS := Lib.hid (show r.size ≤ maxLen by rw [hr]; exact Nat.le_trans (bR_le 10 t) HT.out)
      have HLT := Lib.hid (show r.size < t.size by rw [hr]; exact bR_lt 10 t hz)
      rw [← hx, ← hr] at HCUT
      have HPF := Lib.hid (show pre ++ [x] <+: lnsB s from ⟨_, HX.out⟩)
      have hlen : pre.length < (lnsB s).length := by have := HPF.out.length_le; simp at this; omega
      have HM := Lib.hid (show msrL bn wr = t.size by unfold msrL; rw [hc])
      clear hbf hx hr hz
      gi_wp2_with (refine ⟨trivial, fun _ => by omega, (HCUT.out _).mono ?_⟩; rintro e W2 ⟨rfl, nq, rfl⟩)
      have hJ2 := HJ.out _ _ _ none HJr.out (grown_drewN wr nq) (fun r e => by cases e)
      have HB2 := Lib.hid (show (wr.drewN nq).heap[bn]? = some (.cells #[.string t] 9 (0, 0)) by rw [heap_drewN]; exact HBr.out)
      obtain ⟨fn, tmps, assign, body, hy, hR⟩ := HY.out pre x (wr.drewN nq) hJ2 hlen HPF.out
      clear hJ2 hc
      rw [hy]
      gi_wp2
      refine ⟨fun _ => by omega, hR.mono ?_⟩
      rintro e W3 (⟨rfl, hJ3, hk3⟩ | ⟨rfl, hJx3⟩)
      · have hB3 : W3.heap[bn]? = some (.cells #[.string t] 9 (0, 0)) := Eq.trans hk3 HB2.out
        have hc3 : W3.cell? ⟨bn, 0, none⟩ = some (.string t) := by rw [cell_of_row _ _ _ _ _ _ hB3]; rfl
        have hf3 : W3.frozen? ⟨bn, 0, none⟩ = false := frozen_of_row _ _ _ _ _ hB3
        have HB4 := Lib.hid (show (W3.setCell ⟨bn, 0, none⟩ (.string r)).heap[bn]? = some (.cells #[.string r] 9 (0, 0)) by have := blk_set hB3 0 (.string r); simpa using this)
        have HJ4 := Lib.hid (HJ.out _ _ (W3.setCell ⟨bn, 0, none⟩ (.string r)) (some bn) hJ3 ⟨rfl, rfl, rfl, by simp, fun k hk hne => Below.heap_setCell _ _ _ _ (fun e => hne (by rw [e]))⟩ (fun r e => by cases e; rfl))
        have HM4 := Lib.hid (show msrL bn (W3.setCell ⟨bn, 0, none⟩ (.string r)) = r.size by unfold msrL; rw [cell_of_row _ _ _ _ _ _ HB4.out]; rfl)
        clear hB3 hk3 hJ3
        gi_wp2
        go_roundw
        case rel => exact ⟨r, pre ++ [x], HX, HRS, HB4, HJ4⟩
        case measure => have h1 := HM.out; have h2 := HM4.out; have h3 := HLT.out; omega
      · gi_wp2
        refine bodyPost_ret (results_none rfl _ _ _) rfl ?_
        exact ⟨⟨_, rfl⟩, .inr ⟨pre ++ [x], HPF.out, hJx3⟩⟩
end Go.Proofs.YtcnedecmmplmoaaGreatDoor

/- catalogue: rows of structs in memory: needs, variants. -/
namespace Go.Proofs.YtcnedecmmplmoaaGreatDoor
open Go Go.RowKit Go.BigFrame
open Ver (cmpV BL parts brk)

/-- A law of what m cells read as: it stays where its blocks stay. -/
structure KeepsM {α : Type} (R : World → (Nat → Prop) → List Value → α → Prop) : Prop where
  keep : ∀ {w w' : World} {S : Nat → Prop} {us : List Value} {x : α}, R w S us x → SameS w w' S → R w' S us x
  weak : ∀ {w : World} {S S' : Nat → Prop} {us : List Value} {x : α}, R w S us x → (∀ b, b < w.heap.size → S b → S' b) → R w S' us x
def ItemsM {α : Type} (m : Nat) (R : World → (Nat → Prop) → List Value → α → Prop) (w : World) (S : Nat → Prop) (vs : List Value) (r : List α) : Prop :=
  vs.length = r.length * m ∧ ∀ (k : Nat) (x : α), r[k]? = some x → R w S ((vs.drop (k * m)).take m) x
def OutM {α : Type} (m : Nat) (R : World → (Nat → Prop) → List Value → α → Prop) (w : World) (S : Nat → Prop) (v : Value) (r : List α) : Prop :=
  ∃ vs : List Value, RdS w S v r.length vs ∧ ItemsM m R w S vs r
section
variable {α : Type} {m : Nat} {R : World → (Nat → Prop) → List Value → α → Prop}
theorem ItemsM.nil (w : World) (S : Nat → Prop) : ItemsM m R w S [] [] := ⟨by simp, fun k x h => by simp at h⟩
theorem ItemsM.snoc {w : World} {S : Nat → Prop} {vs us : List Value} {r : List α} {x : α} (h : ItemsM m R w S vs r) (hu : us.length = m) (hx : R w S us x) : ItemsM m R w S (vs ++ us) (r ++ [x]) := by
  refine ⟨by rw [List.length_append, List.length_append, h.1, hu, List.length_singleton, Nat.add_mul, Nat.one_mul], fun k y hy => ?_⟩
  rcases Nat.lt_or_ge k r.length with hk | hk
  · rw [List.getElem?_append_left hk] at hy
    have h2 := h.2 k y hy
    have hle : k * m + m ≤ vs.length := by rw [h.1, ← Nat.succ_mul]; exact Nat.mul_le_mul_right m hk
    rwa [List.drop_append_of_le_length (by omega), List.take_append_of_le_length (by rw [List.length_drop]; omega)]
  · have hkl : k < r.length + 1 := by have := (List.getElem?_eq_some_iff.1 hy).1; simpa using this
    obtain rfl : k = r.length := by omega
    have e2 : x = y := by simpa using hy
    subst e2
    rw [← h.1, List.drop_left, List.take_of_length_le (by omega)]
    exact hx
theorem ItemsM.keep (K : KeepsM R) {w w' : World} {S : Nat → Prop} {vs : List Value} {r : List α} (h : ItemsM m R w S vs r) (hs : SameS w w' S) : ItemsM m R w' S vs r :=
  ⟨h.1, fun k x hx => K.keep (h.2 k x hx) hs⟩
theorem ItemsM.weak (K : KeepsM R) {w : World} {S S' : Nat → Prop} {vs : List Value} {r : List α} (h : ItemsM m R w S vs r) (hw : ∀ b, b < w.heap.size → S b → S' b) : ItemsM m R w S' vs r :=
  ⟨h.1, fun k x hx => K.weak (h.2 k x hx) hw⟩
theorem OutM.keep (K : KeepsM R) {w w' : World} {S : Nat → Prop} {v : Value} {r : List α} (h : OutM m R w S v r) (hs : SameS w w' S) : OutM m R w' S v r := by
  obtain ⟨vs, h1, h2⟩ := h; exact ⟨vs, h1.keep hs, h2.keep K hs⟩
theorem OutM.weak (K : KeepsM R) {w : World} {S S' : Nat → Prop} {v : Value} {r : List α} (h : OutM m R w S v r) (hw : ∀ b, b < w.heap.size → S b → S' b) : OutM m R w S' v r := by
  obtain ⟨vs, h1, h2⟩ := h; exact ⟨vs, h1.weak hw, h2.weak K hw⟩
theorem OutM.below (K : KeepsM R) {w w' : World} {S : Nat → Prop} {v : Value} {r : List α} (h : OutM m R w S v r) (hb : Below w.heap.size w w') : OutM m R w' S v r := h.keep K (SameS.below hb S)
theorem OutM.all (K : KeepsM R) {w : World} {S : Nat → Prop} {v : Value} {r : List α} (h : OutM m R w S v r) : OutM m R w AllB v r := h.weak K fun _ _ _ => trivial
theorem OutM.form {w : World} {S : Nat → Prop} {v : Value} {r : List α} (h : OutM m R w S v r) : ∃ A cap, v = .slice A r.length cap ∧ r.length ≤ cap ∧ cap ≤ maxLen := by
  obtain ⟨vs, h1, _⟩ := h; exact h1.form
theorem OutM.nil (w : World) (S : Nat → Prop) : OutM m R w S (.slice none 0 0) [] := ⟨[], RdS.nil w S, ItemsM.nil w S⟩
/-- The k-th of a row of structs: its cells, and what they read as. -/
theorem OutM.get [Inhabited α] {w : World} {S : Nat → Prop} {A : Option Addr} {n cap : Nat} {r : List α} (h : OutM m R w S (.slice A n cap) r) (k : Nat) (hk : k < r.length) :
    ∃ ad us, A = some ad ∧ us.length = m ∧ ad.block < w.heap.size ∧ S ad.block ∧ (∀ j u, us[j]? = some u → w.cell? (ad.add (k * m + j)) = some u) ∧ R w S us (r.getD k default) := by
  obtain ⟨vs, ⟨A', cap', e, h1, h2, h3, h4⟩, hi⟩ := h
  cases e
  obtain ⟨ad, rfl, hb, hS, hc⟩ := h4 (by omega)
  have hle : k * m + m ≤ vs.length := by rw [hi.1, ← Nat.succ_mul]; exact Nat.mul_le_mul_right m hk
  refine ⟨ad, (vs.drop (k * m)).take m, rfl, by rw [List.length_take, List.length_drop]; omega, hb, hS, fun j u hu => ?_, hi.2 k _ (by simp [hk])⟩
  refine hc _ _ ?_
  rw [List.getElem?_take] at hu
  split at hu
  · rwa [List.getElem?_drop] at hu
  · cases hu
end
theorem OutS.weak {α : Type} {R : World → (Nat → Prop) → Value → α → Prop} (K : Keeps R) {w : World} {S S' : Nat → Prop} {v : Value} {r : List α} (h : OutS R w S v r) (hw : ∀ b, b < w.heap.size → S b → S' b) : OutS R w S' v r := by
  obtain ⟨vs, h1, h2⟩ := h; exact ⟨vs, h1.weak hw, h2.weak K hw⟩
/-- A need's two cells; a row of needs. -/
def NdC (w : World) (S : Nat → Prop) (us : List Value) (n : Nde) : Prop :=
  ∃ u, us = [.string n.1, u] ∧ OutS BRow w S u n.2
theorem NdC.keeps : KeepsM NdC := ⟨fun ⟨u, e, h⟩ hs => ⟨u, e, h.keep BRow.keeps hs⟩, fun ⟨u, e, h⟩ hw => ⟨u, e, h.weak BRow.keeps hw⟩⟩
def NdsS (w : World) (S : Nat → Prop) (v : Value) (l : List Nde) : Prop := OutM 2 NdC w S v l
theorem NdsS.keep {w w' : World} {S : Nat → Prop} {v : Value} {l : List Nde} (h : NdsS w S v l) (hs : SameS w w' S) : NdsS w' S v l := OutM.keep NdC.keeps h hs
theorem NdsS.weak {w : World} {S S' : Nat → Prop} {v : Value} {l : List Nde} (h : NdsS w S v l) (hw : ∀ b, b < w.heap.size → S b → S' b) : NdsS w S' v l := OutM.weak NdC.keeps h hw
/-- A variant's five cells; a row of variants. -/
def VaC (w : World) (S : Nat → Prop) (us : List Value) (x : Va) : Prop :=
  ∃ un uc, us = [.string x.name, .string x.ver, un, uc, .string x.recipe] ∧ NdsS w S un x.needs ∧ NdsS w S uc x.confs
theorem VaC.keeps : KeepsM VaC := ⟨fun ⟨u, c, e, h, g⟩ hs => ⟨u, c, e, h.keep hs, g.keep hs⟩, fun ⟨u, c, e, h, g⟩ hw => ⟨u, c, e, h.weak hw, g.weak hw⟩⟩
def VasS (w : World) (S : Nat → Prop) (v : Value) (l : List Va) : Prop := OutM 5 VaC w S v l
def VasAt (w : World) (v : Value) (l : List Va) : Prop := VasS w AllB v l
def NdsAt (w : World) (v : Value) (l : List Nde) : Prop := NdsS w AllB v l
theorem VasAt.below {w w' : World} {v : Value} {l : List Va} (h : VasAt w v l) (hb : Below w.heap.size w w') : VasAt w' v l := OutM.below VaC.keeps h hb
theorem NdsAt.below {w w' : World} {v : Value} {l : List Nde} (h : NdsAt w v l) (hb : Below w.heap.size w w') : NdsAt w' v l := OutM.below NdC.keeps h hb
/-- No text of these is longer. -/
def ShortN (l : List Nde) : Prop := ∀ n ∈ l, n.1.size ≤ 1000000 ∧ Short n.2
def ShortV (l : List Va) : Prop := ∀ x ∈ l, x.name.size ≤ 1000000 ∧ x.ver.size ≤ 1000000 ∧ x.recipe.size ≤ 1000000 ∧ ShortN x.needs ∧ ShortN x.confs
end Go.Proofs.YtcnedecmmplmoaaGreatDoor

/- catalogue: need, want, needMayBe; the reference's MayNeed. -/
namespace Go.Proofs.YtcnedecmmplmoaaGreatDoor
open Go Go.RowKit Go.BigFrame
open Ver (cmpV BL parts brk)

def NeedYes (nm t : ByteArray) (w : World) (e : Ending) (w' : World) : Prop :=
  ∃ A c, e = .returned (.tuple #[.agg #[.string nm, .slice A (rowsB t).length c], .bool true]) ∧ FrAt w.heap.size w' (.slice A (rowsB t).length c) (rowsB t) ∧ Below w.heap.size w w'
def NeedNo (w : World) (e : Ending) (w' : World) : Prop := e = .returned (.tuple #[.agg #[.string ⟨#[]⟩, .slice none 0 0], .bool false]) ∧ Below w.heap.size w w'
theorem need_results {fn : Func} {p u : Tmp} (hfn : fn.results = #[.cell p 40, .tmp u]) {W : World} {g : Nat} {cs : Array Value} {t : Array Value} (hcs : cs.size = 2) (h : W.heap[g]? = some (.cells cs 40 (0, 0))) (hp : t.getD p undef = .pointer (some ⟨g, 0, none⟩)) :
    (results fn t).run Tryz.prog W = .ok (.tuple #[.agg cs, t.getD u undef]) W := by
  have hi : (Tryz.prog.info? 40).map (·.size) = some cs.size := by rw [hcs]; kernel_rfl
  exact results_cell_tmp hfn t W g _ cs (0, 0) _ _ hp rfl h Tryz.underlying40 (by rfl) hi
theorem fr_set {W : World} {g : Nat} {v : Value} {r : List (List Bd)} {cs : Array Value} (h : FrAt (g + 1) W v r) : FrAt g (W.setRow g cs) v r :=
  (OutS.keep BRow.keeps h ⟨by simp, fun b _ hS => setRow_other _ _ _ _ (by omega)⟩).weak BRow.keeps fun b _ hS => by omega
theorem parse_fr_yes (t : ByteArray) (w : World) (ht : t.size ≤ 1000000) (hm : mayR (rowsB t) = true) : Calls Tryz.prog 114 #[.string t] w fun e W => ∃ A c, e = .returned (.tuple #[.slice A (rowsB t).length c, .int .i64 0]) ∧ FrAt w.heap.size W (.slice A (rowsB t).length c) (rowsB t) ∧ Below w.heap.size w W :=
  (rparse_fr t w ht).mono fun e W h => by
    unfold PF at h
    rw [if_pos hm] at h
    obtain ⟨u, he, hf, hb⟩ := h
    obtain ⟨A, c, rfl, _⟩ := OutS.form hf
    exact ⟨A, c, he, hf, hb⟩
theorem parse_fr_no (t : ByteArray) (w : World) (ht : t.size ≤ 1000000) (hm : mayR (rowsB t) = false) : Calls Tryz.prog 114 #[.string t] w fun e W => e = .returned (.tuple #[.slice none 0 0, .int .i64 140]) ∧ Below w.heap.size w W :=
  (rparse_fr t w ht).mono fun e W h => by
    unfold PF at h
    rwa [hm, if_neg (by simp)] at h
theorem new_need (w : World) : ∃ W0, W0 = w.alloc (.cells #[.string ⟨#[]⟩, .slice none 0 0] 40) ∧ W0.heap[w.heap.size]? = some (.cells #[.string ⟨#[]⟩, .slice none 0 0] 40 (0, 0)) ∧ Below w.heap.size w W0 ∧ W0.heap.size = w.heap.size + 1 :=
  ⟨_, rfl, heap_alloc_new _ _, (Below.refl _ _).alloc (Nat.le_refl _) _, by simp⟩
set_option maxRecDepth 100000 in
set_option maxHeartbeats 2000000 in
theorem need_yes (nm t : ByteArray) (w : World) (hn : nm.size ≤ maxLen) (ht : t.size ≤ 1000000) (hr : rightB nm = true) (hm : mayR (rowsB t) = true) : Calls Tryz.prog 88 #[.string nm, .string t] w (NeedYes nm t w) := by
  obtain ⟨W0, hW0, hg0, hb0, hz0⟩ := new_need w
  have HG := Lib.hid (And.intro hg0 (And.intro hb0 hz0))
  have HP := Lib.hid (parse_fr_yes t W0 ht hm)
  have HR := Lib.hid (fun w' => right_any nm w' hn)
  rw [hr] at HR
  clear hr hm hn ht hg0 hb0 hz0
  go_enter Tryz.func88, Tryz.ntmps88
  go_upto_region 1 with (fail)
  rw [← hW0]
  clear hW0
  go_wp2_with (first
    | (go_at_call 114; refine HP.out.mono ?_; rintro e W ⟨A, c, rfl, hfr, hb⟩
       have hrb := (hb.block w.heap.size (by have := HG.out.2.2; omega)).trans HG.out.1)
    | (go_at_call 57; refine (HR.out _).mono ?_; rintro e W2 ⟨rfl, hw2⟩; obtain rfl := hw2)
    | (refine wpList_store_row rfl _ _ _ rfl _ _ rfl rfl _ _ hrb (by kernel_rfl) (by rfl) (by simp [Value.oneCell']) ?_))
  have hbw := below_setRow (HG.out.2.1.trans (hb.mono (by have := HG.out.2.2; omega))) (Nat.le_refl _) #[.string nm, .slice A (rowsB t).length c]
  rw [HG.out.2.2] at hfr
  exact bodyPost_ret (need_results rfl (cs := #[.string nm, .slice A (rowsB t).length c]) rfl (setRow_heap _ _ _ _ _ _ hrb) rfl) rfl ⟨A, c, rfl, fr_set hfr, hbw⟩
set_option maxRecDepth 100000 in
set_option maxHeartbeats 2000000 in
theorem need_no (nm t : ByteArray) (w : World) (hn : nm.size ≤ maxLen) (ht : t.size ≤ 1000000) (h : (mayR (rowsB t) && rightB nm) = false) : Calls Tryz.prog 88 #[.string nm, .string t] w (NeedNo w) := by
  obtain ⟨W0, hW0, hg0, hb0, hz0⟩ := new_need w
  have HG := Lib.hid (And.intro hg0 (And.intro hb0 hz0))
  have HR := Lib.hid (fun w' => right_any nm w' hn)
  clear hg0 hb0 hz0
  cases hm : mayR (rowsB t) with
  | false =>
    have HP := Lib.hid (parse_fr_no t W0 ht hm)
    clear hm hn ht h
    go_enter Tryz.func88, Tryz.ntmps88
    go_upto_region 1 with (fail)
    rw [← hW0]
    clear hW0
    go_wp2_with (first
      | (go_at_call 114; refine HP.out.mono ?_; rintro e W ⟨rfl, hb⟩
         have hrb := (hb.block w.heap.size (by have := HG.out.2.2; omega)).trans HG.out.1)
      | (refine wpList_store_row rfl _ _ _ rfl _ _ rfl rfl _ _ hrb (by kernel_rfl) (by rfl) (by simp [Value.oneCell']) ?_))
    have hbw := below_setRow (HG.out.2.1.trans (hb.mono (by have := HG.out.2.2; omega))) (Nat.le_refl _) #[.string ⟨#[]⟩, .slice none 0 0]
    exact bodyPost_ret (need_results rfl (cs := #[.string ⟨#[]⟩, .slice none 0 0]) rfl (setRow_heap _ _ _ _ _ _ hrb) rfl) rfl ⟨rfl, hbw⟩
  | true =>
    have hr : rightB nm = false := by rw [hm] at h; simpa using h
    have HP := Lib.hid (parse_fr_yes t W0 ht hm)
    rw [hr] at HR
    clear hm hn ht h hr
    go_enter Tryz.func88, Tryz.ntmps88
    go_upto_region 1 with (fail)
    rw [← hW0]
    clear hW0
    go_wp2_with (first
      | (go_at_call 114; refine HP.out.mono ?_; rintro e W ⟨A, c, rfl, hfr, hb⟩
         have hrb := (hb.block w.heap.size (by have := HG.out.2.2; omega)).trans HG.out.1)
      | (go_at_call 57; refine (HR.out _).mono ?_; rintro e W2 ⟨rfl, hw2⟩; obtain rfl := hw2)
      | (refine wpList_store_row rfl _ _ _ rfl _ _ rfl rfl _ _ hrb (by kernel_rfl) (by rfl) (by simp [Value.oneCell']) ?_))
    have hbw := below_setRow (HG.out.2.1.trans (hb.mono (by have := HG.out.2.2; omega))) (Nat.le_refl _) #[.string ⟨#[]⟩, .slice none 0 0]
    exact bodyPost_ret (need_results rfl (cs := #[.string ⟨#[]⟩, .slice none 0 0]) rfl (setRow_heap _ _ _ _ _ _ hrb) rfl) rfl ⟨rfl, hbw⟩
def WantYes (t : ByteArray) (w : World) (e : Ending) (w' : World) : Prop := NeedYes (bA 64 t) (wantR t) w e w'
set_option maxRecDepth 100000 in
set_option maxHeartbeats 2000000 in
theorem want_yes (t : ByteArray) (w : World) (ht : t.size ≤ 1000000) (h : wantOk t = true) : Calls Tryz.prog 53 #[.string t] w (WantYes t w) := by
  obtain ⟨W0, hW0, hg0, hb0, hz0⟩ := new_need w
  have HG := Lib.hid (And.intro hg0 (And.intro hb0 hz0))
  have hb : bA 64 t = bA 64 t := rfl
  obtain ⟨bf, hbf⟩ : ∃ bf, bF 64 t = bf := ⟨_, rfl⟩
  unfold wantOk at h
  rw [Bool.and_eq_true] at h
  have HC := Lib.hid (fun w' => cut_is bf 64 t w' (by unfold maxLen; omega) hbf)
  have hA : (bA 64 t).size ≤ maxLen := by have := bA_le 64 t; unfold maxLen; omega
  have hR : (bR 64 t).size ≤ 1000000 := by have := bR_le 64 t; omega
  unfold WantYes
  generalize bA 64 t = a at *
  cases bf with
  | true =>
    have e1 : wantR t = bR 64 t := by unfold wantR; rw [if_pos hbf]
    rw [e1] at h ⊢
    have HN := Lib.hid (fun w' => need_yes a (bR 64 t) w' hA hR h.2 h.1)
    generalize bR 64 t = r at *
    clear h hbf e1 hA hR hb hg0 hb0 hz0 ht
    go_enter Tryz.func53, Tryz.ntmps53
    go_upto_region 1 with (fail)
    rw [← hW0]
    clear hW0
    go_wp2_with (first
      | (go_at_call 76; refine (HC.out _).mono ?_; rintro e W ⟨rfl, nq, rfl⟩)
      | (go_at_call 88; refine (HN.out _).mono ?_; rintro e W ⟨A, c, rfl, hfr, hb⟩
         have hbn := (below_drewN (Below.refl W0.heap.size W0) nq).trans (hb.mono (by rw [heap_drewN]; exact Nat.le_refl _))
         have hrb := (hbn.block w.heap.size (by have := HG.out.2.2; omega)).trans HG.out.1)
      | (refine wpList_store_row rfl _ _ _ rfl _ _ rfl rfl _ _ hrb (by kernel_rfl) (by rfl) (by simp [Value.oneCell']) ?_))
    have hbw := below_setRow (HG.out.2.1.trans (hbn.mono (by have := HG.out.2.2; omega))) (Nat.le_refl _) #[.string a, .slice A (rowsB r).length c]
    rw [heap_drewN, HG.out.2.2] at hfr
    exact bodyPost_ret (need_results rfl (cs := #[.string a, .slice A (rowsB r).length c]) rfl (setRow_heap _ _ _ _ _ _ hrb) rfl) rfl ⟨A, c, rfl, fr_set hfr, hbw⟩
  | false =>
    have e1 : wantR t = ⟨#[42]⟩ := by unfold wantR; rw [hbf]; rfl
    rw [e1] at h ⊢
    have HN := Lib.hid (fun w' => need_yes a ⟨#[42]⟩ w' hA (by decide) h.2 h.1)
    clear h hbf e1 hA hR hb hg0 hb0 hz0 ht
    go_enter Tryz.func53, Tryz.ntmps53
    go_upto_region 1 with (fail)
    rw [← hW0]
    clear hW0
    go_wp2_with (first
      | (go_at_call 76; refine (HC.out _).mono ?_; rintro e W ⟨rfl, nq, rfl⟩)
      | (go_at_call 88; refine (HN.out _).mono ?_; rintro e W ⟨A, c, rfl, hfr, hb⟩
         have hbn := (below_drewN (Below.refl W0.heap.size W0) nq).trans (hb.mono (by rw [heap_drewN]; exact Nat.le_refl _))
         have hrb := (hbn.block w.heap.size (by have := HG.out.2.2; omega)).trans HG.out.1)
      | (refine wpList_store_row rfl _ _ _ rfl _ _ rfl rfl _ _ hrb (by kernel_rfl) (by rfl) (by simp [Value.oneCell']) ?_))
    have hbw := below_setRow (HG.out.2.1.trans (hbn.mono (by have := HG.out.2.2; omega))) (Nat.le_refl _) #[.string a, .slice A (rowsB ⟨#[42]⟩).length c]
    rw [heap_drewN, HG.out.2.2] at hfr
    exact bodyPost_ret (need_results rfl (cs := #[.string a, .slice A (rowsB ⟨#[42]⟩).length c]) rfl (setRow_heap _ _ _ _ _ _ hrb) rfl) rfl ⟨A, c, rfl, fr_set hfr, hbw⟩
set_option maxRecDepth 100000 in
set_option maxHeartbeats 2000000 in
theorem want_no (t : ByteArray) (w : World) (ht : t.size ≤ 1000000) (h : wantOk t = false) : Calls Tryz.prog 53 #[.string t] w (NeedNo w) := by
  obtain ⟨W0, hW0, hg0, hb0, hz0⟩ := new_need w
  have HG := Lib.hid (And.intro hg0 (And.intro hb0 hz0))
  obtain ⟨bf, hbf⟩ : ∃ bf, bF 64 t = bf := ⟨_, rfl⟩
  unfold wantOk at h
  have HC := Lib.hid (fun w' => cut_is bf 64 t w' (by unfold maxLen; omega) hbf)
  have hA : (bA 64 t).size ≤ maxLen := by have := bA_le 64 t; unfold maxLen; omega
  have hR : (bR 64 t).size ≤ 1000000 := by have := bR_le 64 t; omega
  generalize bA 64 t = a at *
  cases bf with
  | true =>
    have e1 : wantR t = bR 64 t := by unfold wantR; rw [if_pos hbf]
    rw [e1] at h
    have HN := Lib.hid (fun w' => need_no a (bR 64 t) w' hA hR h)
    generalize bR 64 t = r at *
    clear h hbf e1 hA hR hg0 hb0 hz0 ht
    go_enter Tryz.func53, Tryz.ntmps53
    go_upto_region 1 with (fail)
    rw [← hW0]
    clear hW0
    go_wp2_with (first
      | (go_at_call 76; refine (HC.out _).mono ?_; rintro e W ⟨rfl, nq, rfl⟩)
      | (go_at_call 88; refine (HN.out _).mono ?_; rintro e W ⟨rfl, hb⟩
         have hbn := (below_drewN (Below.refl W0.heap.size W0) nq).trans (hb.mono (by rw [heap_drewN]; exact Nat.le_refl _))
         have hrb := (hbn.block w.heap.size (by have := HG.out.2.2; omega)).trans HG.out.1)
      | (refine wpList_store_row rfl _ _ _ rfl _ _ rfl rfl _ _ hrb (by kernel_rfl) (by rfl) (by simp [Value.oneCell']) ?_))
    have hbw := below_setRow (HG.out.2.1.trans (hbn.mono (by have := HG.out.2.2; omega))) (Nat.le_refl _) #[.string ⟨#[]⟩, .slice none 0 0]
    exact bodyPost_ret (need_results rfl (cs := #[.string ⟨#[]⟩, .slice none 0 0]) rfl (setRow_heap _ _ _ _ _ _ hrb) rfl) rfl ⟨rfl, hbw⟩
  | false =>
    have e1 : wantR t = ⟨#[42]⟩ := by unfold wantR; rw [hbf]; rfl
    rw [e1] at h
    have HN := Lib.hid (fun w' => need_no a ⟨#[42]⟩ w' hA (by decide) h)
    clear h hbf e1 hA hR hg0 hb0 hz0 ht
    go_enter Tryz.func53, Tryz.ntmps53
    go_upto_region 1 with (fail)
    rw [← hW0]
    clear hW0
    go_wp2_with (first
      | (go_at_call 76; refine (HC.out _).mono ?_; rintro e W ⟨rfl, nq, rfl⟩)
      | (go_at_call 88; refine (HN.out _).mono ?_; rintro e W ⟨rfl, hb⟩
         have hbn := (below_drewN (Below.refl W0.heap.size W0) nq).trans (hb.mono (by rw [heap_drewN]; exact Nat.le_refl _))
         have hrb := (hbn.block w.heap.size (by have := HG.out.2.2; omega)).trans HG.out.1)
      | (refine wpList_store_row rfl _ _ _ rfl _ _ rfl rfl _ _ hrb (by kernel_rfl) (by rfl) (by simp [Value.oneCell']) ?_))
    have hbw := below_setRow (HG.out.2.1.trans (hbn.mono (by have := HG.out.2.2; omega))) (Nat.le_refl _) #[.string ⟨#[]⟩, .slice none 0 0]
    exact bodyPost_ret (need_results rfl (cs := #[.string ⟨#[]⟩, .slice none 0 0]) rfl (setRow_heap _ _ _ _ _ _ hrb) rfl) rfl ⟨rfl, hbw⟩
/-- May a need be? -/
theorem pr_e (r : List (List Bd)) : (prE r == 0) = mayR r ∧ (decide (prE r = 0)) = mayR r := by
  unfold prE
  cases mayR r <;> exact ⟨rfl, rfl⟩
set_option maxRecDepth 100000 in
set_option maxHeartbeats 2000000 in
theorem needMayBe_any (n : Nde) (u : Value) (w : World) (hu : RngAt w u n.2) (hsz : Short n.2) (hn : n.1.size ≤ maxLen) : Calls Tryz.prog 48 #[.agg #[.string n.1, u]] w fun e w' => e = .returned (.bool (needB n)) ∧ Below w.heap.size w w' := by
  obtain ⟨A, c, rfl, hlc, hcm⟩ := OutS.form hu
  obtain ⟨nm, r⟩ := n
  dsimp only at *
  have HR := Lib.hid (fun w' => right_any nm w' hn)
  obtain ⟨W0, hW0, hg0, hb0, hz0⟩ : ∃ W0, W0 = w.alloc (.cells #[.string nm, .slice A r.length c] 40) ∧ W0.heap[w.heap.size]? = some (.cells #[.string nm, .slice A r.length c] 40 (0, 0)) ∧ Below w.heap.size w W0 ∧ W0.heap.size = w.heap.size + 1 := ⟨_, rfl, heap_alloc_new _ _, (Below.refl _ _).alloc (Nat.le_refl _) _, by simp⟩
  have h0 : W0.cell? ⟨w.heap.size, 0, none⟩ = some (.string nm) := by rw [cell_of_row _ _ _ _ _ _ hg0]; rfl
  have h1 : W0.cell? ⟨w.heap.size, 1, none⟩ = some (.slice A r.length c) := by rw [cell_of_row _ _ _ _ _ _ hg0]; rfl
  have HP := Lib.hid (print_any r _ W0 (hu.below hb0) hsz)
  have HB := Lib.hid hb0
  have HZ := Lib.hid hz0
  clear hu hsz hn hg0 hb0 hz0
  cases hr : rightB nm with
  | false =>
    rw [hr] at HR
    have HF := Lib.hid (show needB (nm, r) = false by unfold needB; rw [hr]; rfl)
    clear hr
    go_enter Tryz.func48, Tryz.ntmps48
    go_upto_region 1 with (fail)
    rw [← hW0]
    clear hW0
    go_wp2_with (go_at_call 57; refine (HR.out _).mono ?_; rintro e W2 ⟨rfl, hw2⟩; obtain rfl := hw2)
    go_ret
    exact ⟨by rw [HF.out]; rfl, HB.out⟩
  | true =>
    rw [hr] at HR
    by_cases hl : r.length = 0
    · have HF := Lib.hid (show needB (nm, r) = false by unfold needB; rw [hl]; simp)
      have hl1 : ((r.length : Int) == 0) = true := by rw [hl]; rfl
      have HL := Lib.hid hl
      clear hr hl
      go_enter Tryz.func48, Tryz.ntmps48
      go_upto_region 1 with (fail)
      rw [← hW0]
      clear hW0
      go_wp2_with (go_at_call 57; refine (HR.out _).mono ?_; rintro e W2 ⟨rfl, hw2⟩; obtain rfl := hw2)
      go_ret
      exact ⟨by rw [HF.out]; rfl, HB.out⟩
    · have HF := Lib.hid (show needB (nm, r) = mayR r by unfold needB; rw [hr, decide_eq_true (show 0 < (nm, r).2.length by show 0 < r.length; omega)]; simp)
      have hl1 : ¬ (r.length : Int) = 0 := by omega
      have HE := Lib.hid (pr_e r)
      generalize prE r = z at *
      generalize prS r = t at *
      generalize mayR r = m at *
      obtain ⟨h2, h3⟩ := HE.out
      clear hr HE
      go_enter Tryz.func48, Tryz.ntmps48
      go_upto_region 1 with (fail)
      rw [← hW0]
      clear hW0
      go_wp2_with (first
        | (go_at_call 57; refine (HR.out _).mono ?_; rintro e W2 ⟨rfl, hw2⟩; obtain rfl := hw2)
        | (go_at_call 65; refine HP.out.mono ?_; rintro e W2 ⟨rfl, hb2⟩))
      go_ret
      exact ⟨by rw [HF.out]; rfl, HB.out.trans (hb2.mono (by have := HZ.out; omega))⟩
end Go.Proofs.YtcnedecmmplmoaaGreatDoor
