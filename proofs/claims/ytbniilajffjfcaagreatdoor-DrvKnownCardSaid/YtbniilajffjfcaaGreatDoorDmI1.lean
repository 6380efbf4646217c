/- drv: the chapter's examples. -/
import Derived.Test.YtbniilajffjfcaaGreatDoorDmDb
import Derived.Test.YtbniilajffjfcaaGreatDoorDmV1
import Derived.Test.YtbniilajffjfcaaGreatDoorDmO1
set_option linter.unusedVariables false
set_option linter.unusedSimpArgs false
namespace Go.Proofs.YtbniilajffjfcaaGreatDoor
open Go.RowKit Go.BigFrame Go.Maps
open Drv (posO edges edgeAt dupB stepS sortS)

def sB (l : List UInt8) : ByteArray := ⟨l.toArray⟩
def exN : List ByteArray := [⟨#[97]⟩, ⟨#[98]⟩, ⟨#[99]⟩, ⟨#[100]⟩]
def exN3 : List ByteArray := [⟨#[97]⟩, ⟨#[98]⟩, ⟨#[99]⟩]
def exD : List (List ByteArray) := [[⟨#[98]⟩, ⟨#[99]⟩], [⟨#[99]⟩], [], [⟨#[100]⟩]]
def exB : List UInt8 := [68, 82, 86, 49, 0, 0, 0, 1, 120, 0, 0, 0, 0, 0, 0]
def xS : ByteArray := ⟨#[120]⟩
theorem ex1 : sortC exN exD = 240 := by decide +kernel
theorem ex2 : sortL exN3 exD = [2, 1, 0] ∧ sortC exN3 exD = 0 := by decide +kernel
theorem ex3 : closL exN exD [⟨#[98]⟩] = [1, 2] ∧ closC exN = 0 := by decide +kernel
theorem ex4 : closL exN exD [⟨#[100]⟩, ⟨#[120]⟩] = [3] := by decide +kernel
theorem ex5 : putR xS [] ⟨#[]⟩ = exB ∧ putE xS [] ⟨#[]⟩ = 0 := by decide +kernel
theorem ex6 : getS exB = some (xS, [], ⟨#[]⟩) := by decide +kernel
theorem ex7 : nameB xS [] ⟨#[]⟩ = true ∧ rightD xS [] ⟨#[]⟩ = true := by decide +kernel
theorem ex8 : nameE xS [] ⟨#[]⟩ = 0 ∧ (nameR xS [] ⟨#[]⟩).size = 38 := by
  unfold nameE nameR
  rw [ex7.1]
  refine ⟨rfl, ?_⟩
  rw [if_pos rfl, Nam.nameS_size]
  rfl
theorem few_ex : Few exN exD := ⟨by decide, by decide, fun r hr => by
  simp [exD] at hr
  rcases hr with rfl | rfl | rfl | rfl <;> exact ⟨by simp, fun s hs => by simp at hs <;> (try rcases hs with rfl | rfl) <;> (try subst hs) <;> decide⟩, fun s hs => by
  simp [exN] at hs
  rcases hs with rfl | rfl | rfl | rfl <;> decide⟩
theorem few_ex3 : Few exN3 exD := ⟨by decide, by decide, few_ex.row, fun s hs => few_ex.small s (by
  simp [exN3] at hs
  simp [exN]
  rcases hs with rfl | rfl | rfl <;> simp)⟩
end Go.Proofs.YtbniilajffjfcaaGreatDoor

/- drv: works answers true. -/
namespace Go.Proofs.YtbniilajffjfcaaGreatDoor
open Go.RowKit Go.BigFrame Go.Maps

theorem irow_new (W : World) (cs : Array Value) (T : TypeId) (l : List Int) (h : cs.toList = ints l) (hn : l.length ≤ 4000000) : IRow (W.alloc (.cells cs T)) AllB (.slice (some ⟨W.heap.size, 0, none⟩) l.length l.length) l :=
  ⟨_, _, rfl, Nat.le_refl _, by unfold maxLen; omega, (fun h => by cases h), fun _ => ⟨_, rfl, by simp, trivial, fun j u hu => row_cells (heap_alloc_new W (.cells cs T)) j u (by rw [← hu, ← h]; simp)⟩⟩
theorem trow_new (W : World) (cs : Array Value) (T : TypeId) (l : List ByteArray) (h : cs.toList = strs l) (hn : l.length ≤ 4000000) : TRow (W.alloc (.cells cs T)) AllB (.slice (some ⟨W.heap.size, 0, none⟩) l.length l.length) l :=
  ⟨_, _, rfl, Nat.le_refl _, by unfold maxLen; omega, (fun h => by cases h), fun _ => ⟨_, rfl, by simp, trivial, fun j u hu => row_cells (heap_alloc_new W (.cells cs T)) j u (by rw [← hu, ← h]; simp)⟩⟩
theorem TRow.alloc {w : World} {v : Value} {l : List ByteArray} (h : TRow w AllB v l) (o : Obj) : TRow (w.alloc o) AllB v l := RdS.below h ((Below.refl _ _).alloc (Nat.le_refl _) _)
theorem trows_new (W : World) (vs : Array Value) (T : TypeId) (r : List (List ByteArray)) (hn : vs.size = r.length) (hl : r.length ≤ 1000000) (h : ∀ (k : Nat) (u : Value) (x : List ByteArray), vs[k]? = some u → r[k]? = some x → TRow W AllB u x) : TextsAt (W.alloc (.cells vs T)) (.slice (some ⟨W.heap.size, 0, none⟩) r.length r.length) r := by
  refine ⟨vs.toList, ⟨_, _, rfl, Nat.le_refl _, by unfold maxLen; omega, (fun h => by cases h), fun _ => ⟨_, rfl, by simp, trivial, fun j u hu => row_cells (heap_alloc_new W (.cells vs T)) j u (by rw [← hu]; simp)⟩⟩, by simpa using hn, fun k u x hu hx => (h k u x (by rw [← hu]; simp) hx).alloc _⟩
def RowIs (L : List Nat) (c : Int) (w : World) (e : Ending) (w' : World) : Prop :=
  ∃ A cap, e = .returned (.tuple #[.slice A L.length cap, .int .i64 c]) ∧ Below w.heap.size w w' ∧ IRow w' AllB (.slice A L.length cap) (ofN L)
theorem RowPost.is {L : List Nat} {c : Int} {w : World} {e : Ending} {w' : World} (h : RowPost L c w e w') : RowIs L c w e w' := by
  obtain ⟨u, rfl, ho, hb⟩ := h
  obtain ⟨A, cap, rfl⟩ := own_form ho
  exact ⟨A, cap, rfl, hb, RdS.all (irow_own ho)⟩
theorem sort_is (a b : Value) (names : List ByteArray) (needs : List (List ByteArray)) (w : World) (ha : TRow w AllB a names) (hb : TextsAt w b needs) (hf : Few names needs) (L : List Nat) (c : Int) (hL : sortL names needs = L) (hc : sortC names needs = c) :
    Calls Tryz.prog 26 #[a, b] w (RowIs L c w) := by
  subst hL; subst hc
  exact (sort_any a b names needs w ha hb hf).mono fun e w' h => h.is
theorem clos_is (a b c : Value) (names : List ByteArray) (needs : List (List ByteArray)) (roots : List ByteArray) (w : World) (ha : TRow w AllB a names) (hb : TextsAt w b needs) (hc : TRow w AllB c roots) (hf : Few names needs) (hr : roots.length ≤ 100000) (hrs : Small roots) (L : List Nat) (x : Int) (hL : closL names needs roots = L) (hx : closC names = x) :
    Calls Tryz.prog 30 #[a, b, c] w (RowIs L x w) := by
  subst hL; subst hx
  exact (closure_any a b c names needs roots w ha hb hc hf hr hrs).mono fun e w' h => h.is
theorem same_is (a b : Value) (xs : List Int) (w : World) (ha : IRow w AllB a xs) (hb : IRow w AllB b xs) : Calls Tryz.prog 28 #[a, b] w fun e w' => e = .returned (.bool true) ∧ Below w.heap.size w w' := by
  refine (sameInts_any a b xs xs w.heap.size w (RdS.reads (S := AllB) (by rw [ints_len]; exact ha)) (RdS.reads (S := AllB) (by rw [ints_len]; exact hb))).mono ?_
  rintro e w' ⟨rfl, nq, rfl⟩
  exact ⟨by simp, below_drewN (Below.refl _ _) _⟩
theorem built_ex (W : World) : ∃ w1, w1 = (((((W.alloc (.cells #[.string ⟨#[97]⟩, .string ⟨#[98]⟩, .string ⟨#[99]⟩, .string ⟨#[100]⟩] 9)).alloc (.cells #[.string ⟨#[98]⟩, .string ⟨#[99]⟩] 9)).alloc (.cells #[.string ⟨#[99]⟩] 9)).alloc (.cells #[.string ⟨#[100]⟩] 9)).alloc (.cells #[.slice (some ⟨W.heap.size + 1, 0, none⟩) 2 2, .slice (some ⟨W.heap.size + 1 + 1, 0, none⟩) 1 1, .slice none 0 0, .slice (some ⟨W.heap.size + 1 + 1 + 1, 0, none⟩) 1 1] 25)) ∧
    TRow w1 AllB (.slice (some ⟨W.heap.size, 0, none⟩) 4 4) exN ∧ TRow w1 AllB (.slice (some ⟨W.heap.size, 0, none⟩) 3 4) exN3 ∧ TextsAt w1 (.slice (some ⟨W.heap.size + 1 + 1 + 1 + 1, 0, none⟩) 4 4) exD ∧ Below W.heap.size W w1 ∧ w1.heap.size = W.heap.size + 1 + 1 + 1 + 1 + 1 := by
  have h1 := trow_new W #[.string ⟨#[97]⟩, .string ⟨#[98]⟩, .string ⟨#[99]⟩, .string ⟨#[100]⟩] 9 exN rfl (by decide)
  have h2 := trow_new (W.alloc (.cells #[.string ⟨#[97]⟩, .string ⟨#[98]⟩, .string ⟨#[99]⟩, .string ⟨#[100]⟩] 9)) #[.string ⟨#[98]⟩, .string ⟨#[99]⟩] 9 [⟨#[98]⟩, ⟨#[99]⟩] rfl (by decide)
  have h3 := trow_new ((W.alloc (.cells #[.string ⟨#[97]⟩, .string ⟨#[98]⟩, .string ⟨#[99]⟩, .string ⟨#[100]⟩] 9)).alloc (.cells #[.string ⟨#[98]⟩, .string ⟨#[99]⟩] 9)) #[.string ⟨#[99]⟩] 9 [⟨#[99]⟩] rfl (by decide)
  have h4 := trow_new (((W.alloc (.cells #[.string ⟨#[97]⟩, .string ⟨#[98]⟩, .string ⟨#[99]⟩, .string ⟨#[100]⟩] 9)).alloc (.cells #[.string ⟨#[98]⟩, .string ⟨#[99]⟩] 9)).alloc (.cells #[.string ⟨#[99]⟩] 9)) #[.string ⟨#[100]⟩] 9 [⟨#[100]⟩] rfl (by decide)
  have h1' := (((h1.alloc (.cells #[.string ⟨#[98]⟩, .string ⟨#[99]⟩] 9)).alloc (.cells #[.string ⟨#[99]⟩] 9)).alloc (.cells #[.string ⟨#[100]⟩] 9))
  have h2' := (h2.alloc (.cells #[.string ⟨#[99]⟩] 9)).alloc (.cells #[.string ⟨#[100]⟩] 9)
  have h3' := h3.alloc (.cells #[.string ⟨#[100]⟩] 9)
  have h5 := trows_new ((((W.alloc (.cells #[.string ⟨#[97]⟩, .string ⟨#[98]⟩, .string ⟨#[99]⟩, .string ⟨#[100]⟩] 9)).alloc (.cells #[.string ⟨#[98]⟩, .string ⟨#[99]⟩] 9)).alloc (.cells #[.string ⟨#[99]⟩] 9)).alloc (.cells #[.string ⟨#[100]⟩] 9)) #[.slice (some ⟨W.heap.size + 1, 0, none⟩) 2 2, .slice (some ⟨W.heap.size + 1 + 1, 0, none⟩) 1 1, .slice none 0 0, .slice (some ⟨W.heap.size + 1 + 1 + 1, 0, none⟩) 1 1] 25 exD rfl (by decide) (fun k u x hu hx => by
    match k with
    | 0 => cases hu; cases hx; simpa using h2'
    | 1 => cases hu; cases hx; simpa using h3'
    | 2 => cases hu; cases hx; exact RdS.nil _ _
    | 3 => cases hu; cases hx; simpa using h4
    | k + 4 => cases hx)
  have e : ((((W.alloc (.cells #[.string ⟨#[97]⟩, .string ⟨#[98]⟩, .string ⟨#[99]⟩, .string ⟨#[100]⟩] 9)).alloc (.cells #[.string ⟨#[98]⟩, .string ⟨#[99]⟩] 9)).alloc (.cells #[.string ⟨#[99]⟩] 9)).alloc (.cells #[.string ⟨#[100]⟩] 9)).heap.size = W.heap.size + 1 + 1 + 1 + 1 := by simp
  rw [e] at h5
  have h6 := h1'.alloc (.cells #[.slice (some ⟨W.heap.size + 1, 0, none⟩) 2 2, .slice (some ⟨W.heap.size + 1 + 1, 0, none⟩) 1 1, .slice none 0 0, .slice (some ⟨W.heap.size + 1 + 1 + 1, 0, none⟩) 1 1] 25)
  refine ⟨_, rfl, h6, ?_, h5, ((((((Below.refl _ _).alloc (Nat.le_refl _) _).alloc (by simp) _).alloc (by simp <;> omega) _).alloc (by simp <;> omega) _).alloc (by simp <;> omega) _), by simp⟩
  obtain ⟨A, cap, e1, h1, h2, h3, h4⟩ := h6
  cases e1
  refine ⟨_, _, rfl, by decide, by unfold maxLen; decide, (fun h => by cases h), fun _ => ?_⟩
  obtain ⟨ad, e2, hl, hS, hc⟩ := h4 (by decide)
  refine ⟨ad, e2, hl, hS, fun j u hu => hc j u ?_⟩
  match j with
  | 0 => exact hu
  | 1 => exact hu
  | 2 => exact hu
  | j + 3 => cases hu
theorem small_ex1 : Small [(⟨#[98]⟩ : ByteArray)] := fun s hs => by simp at hs; subst hs; decide
theorem small_ex2 : Small [(⟨#[100]⟩ : ByteArray), ⟨#[120]⟩] := fun s hs => by simp at hs; rcases hs with rfl | rfl <;> decide
theorem TextsAt.alloc {w : World} {v : Value} {l : List (List ByteArray)} (h : TextsAt w v l) (o : Obj) : TextsAt (w.alloc o) v l := h.below ((Below.refl _ _).alloc (Nat.le_refl _) _)
theorem next {v x w1 : World} {o : Obj} (h : Below v.heap.size v x) (h1 : Below (x.alloc o).heap.size (x.alloc o) w1) : Below v.heap.size v w1 := below_step (h.alloc h.size o) h1 (Nat.le_trans h.size (by simp))
theorem step {v x w1 : World} (h : Below v.heap.size v x) (h1 : Below x.heap.size x w1) : Below v.heap.size v w1 := below_step h h1 h.size
theorem put_ex (w : World) : Calls Tryz.prog 15 #[.agg #[.string xS, .slice none 0 0, .string ⟨#[]⟩]] w fun e w' => ∃ A cap, e = .returned (.tuple #[.slice A 15 cap, .int .i64 0]) ∧ Byt w' (.slice A 15 cap) exB ∧ Below w.heap.size w w' := by
  refine (put_any xS (.slice none 0 0) [] ⟨#[]⟩ w (RdS.nil _ _) (fun s hs => by simp at hs) (by decide) (by decide)).mono ?_
  rintro e w' ⟨u, rfl, hy, hb⟩
  rw [ex5.1] at hy
  rw [ex5.2]
  have hy' := hy
  obtain ⟨A, cap, rfl, _⟩ := hy'
  exact ⟨A, cap, rfl, hy, hb⟩
theorem get_ex (u : Value) (w : World) (h : Byt w u exB) : Calls Tryz.prog 19 #[u] w fun e w' => ∃ A cap, e = .returned (.tuple #[.agg #[.string xS, .slice A 0 cap, .string ⟨#[]⟩], .int .i64 0]) ∧ TRow w' AllB (.slice A 0 cap) [] ∧ Below w.heap.size w w' := by
  refine (get_any u exB w h (by decide)).mono ?_
  rintro e w' ⟨hb, h⟩
  rw [ex6] at h
  obtain ⟨v, rfl, ho⟩ := h
  obtain ⟨A, cap, rfl⟩ := own_form ho
  exact ⟨A, cap, rfl, RdS.all (RdS.own ho), hb⟩
theorem name_ex (v : Value) (w : World) (ht : Sha.Tabs w) (h : TRow w AllB v []) : Calls Tryz.prog 16 #[.agg #[.string xS, v, .string ⟨#[]⟩]] w fun e w' => ∃ s : ByteArray, s.size = 38 ∧ e = .returned (.tuple #[.string s, .int .i64 0]) ∧ Below w.heap.size w w' := by
  refine (name_any xS v [] ⟨#[]⟩ w ht h (fun s hs => by simp at hs) (by decide) (by decide)).mono ?_
  rintro e w' ⟨rfl, hb⟩
  exact ⟨_, ex8.2, by rw [ex8.1], hb⟩
theorem right_ex (v : Value) (w : World) (h : TRow w AllB v []) : Calls Tryz.prog 9 #[.agg #[.string xS, v, .string ⟨#[]⟩]] w fun e w' => e = .returned (.bool true) ∧ Below w.heap.size w w' := by
  refine (right_drv xS v [] ⟨#[]⟩ w h (fun s hs => by simp at hs) (by decide) (by decide)).mono ?_
  rintro e w' ⟨rfl, hb⟩
  exact ⟨by rw [ex7.2], hb⟩
theorem conv_ex {w : World} {u : Value} (h : Byt w u exB) : (convert 26 9 u).run Tryz.prog w = .ok (.string ⟨#[68, 82, 86, 49, 0, 0, 0, 1, 120, 0, 0, 0, 0, 0, 0]⟩) w := h.conv
set_option maxRecDepth 100000 in
set_option maxHeartbeats 8000000 in
theorem works_any (w : World) (ht : Sha.Tabs w) : Calls Tryz.prog 13 #[] w fun e w' => e = .returned (.bool true) ∧ Below w.heap.size w w' := by
  have HT := Lib.hid (fun (w' : World) (h : Below w.heap.size w w') => ht.below h)
  clear ht
  go_enter Tryz.func13, Tryz.ntmps13
  go_upto_region 3 with (fail)
  obtain ⟨v1, hv1, hN, hN3, hD, hb1, hz1⟩ := built_ex w
  rw [← hv1]
  have HN := Lib.hid (fun (x : World) (h : Below v1.heap.size v1 x) => show TRow x AllB _ exN from RdS.below hN h)
  have HN3 := Lib.hid (fun (x : World) (h : Below v1.heap.size v1 x) => show TRow x AllB _ exN3 from RdS.below hN3 h)
  have HD := Lib.hid (fun (x : World) (h : Below v1.heap.size v1 x) => show TextsAt x _ exD from TextsAt.below hD h)
  have HB1 := Lib.hid hb1
  clear hv1 hN hN3 hD hb1
  go_wp2_with fail
  refine (sort_is _ _ exN exD v1 (HN.out v1 (Below.refl _ _)) (HD.out v1 (Below.refl _ _)) few_ex _ 240 rfl ex1).mono ?_
  rintro e x1 ⟨A1, c1, rfl, hx1, _⟩
  generalize (sortL exN exD).length = m1 at *
  have HX1 := Lib.hid hx1
  clear hx1
  go_wp2_with fail
  refine (sort_is _ _ exN3 exD x1 (HN3.out x1 HX1.out) (HD.out x1 HX1.out) few_ex3 _ 0 ex2.1 ex2.2).mono ?_
  rintro e x2 ⟨A2, c2, rfl, hx2, hi2⟩
  have HX2 := Lib.hid (step HX1.out hx2)
  have HI2 := Lib.hid hi2
  clear hx2 hi2 HX1
  go_wp2_with fail
  refine (clos_is _ _ _ exN exD [⟨#[98]⟩] _ ((HN.out x2 HX2.out).alloc _) ((HD.out x2 HX2.out).alloc _) (trow_new x2 #[.string ⟨#[98]⟩] 9 [⟨#[98]⟩] rfl (by decide)) few_ex (by decide) small_ex1 _ 0 ex3.1 ex3.2).mono ?_
  rintro e x3 ⟨A3, c3, rfl, hx3, hi3⟩
  have HX3 := Lib.hid (next HX2.out hx3)
  have HI2' := Lib.hid (RdS.below (HI2.out) (next (Below.refl _ _) hx3))
  have HI3 := Lib.hid hi3
  clear hx3 hi3 HX2 HI2
  go_wp2_with fail
  refine (clos_is _ _ _ exN exD [⟨#[100]⟩, ⟨#[120]⟩] _ ((HN.out x3 HX3.out).alloc _) ((HD.out x3 HX3.out).alloc _) (trow_new x3 #[.string ⟨#[100]⟩, .string ⟨#[120]⟩] 9 [⟨#[100]⟩, ⟨#[120]⟩] rfl (by decide)) few_ex (by decide) small_ex2 _ 0 ex4 ex3.2).mono ?_
  rintro e x4 ⟨A4, c4, rfl, hx4, hi4⟩
  have HX4 := Lib.hid (next HX3.out hx4)
  have HI2 := Lib.hid (RdS.below (HI2'.out) (next (Below.refl _ _) hx4))
  have HI3' := Lib.hid (RdS.below (HI3.out) (next (Below.refl _ _) hx4))
  have HI4 := Lib.hid hi4
  clear hx4 hi4 HX3 HI2' HI3
  go_wp2_with fail
  refine (put_ex x4).mono ?_
  rintro e x5 ⟨A5, c5, rfl, hy5, hx5⟩
  have HX5 := Lib.hid (step HX4.out hx5)
  have HI2' := Lib.hid (RdS.below HI2.out hx5)
  have HI3 := Lib.hid (RdS.below HI3'.out hx5)
  have HI4' := Lib.hid (RdS.below HI4.out hx5)
  have HY := Lib.hid hy5
  clear hx5 hy5 HX4 HI2 HI3' HI4
  go_wp2_with fail
  refine (get_ex _ x5 HY.out).mono ?_
  rintro e x6 ⟨A6, c6, rfl, hr6, hx6⟩
  have HX6 := Lib.hid (step HX5.out hx6)
  have HI2 := Lib.hid (RdS.below HI2'.out hx6)
  have HI3' := Lib.hid (RdS.below HI3.out hx6)
  have HI4 := Lib.hid (RdS.below HI4'.out hx6)
  have HY6 := Lib.hid (HY.out.below hx6)
  have HR6 := Lib.hid hr6
  clear hx6 hr6 HX5 HI2' HI3 HI4' HY
  go_upto_region 9 with (fail)
  obtain ⟨x7, hx7, hg7, hb7, hz7⟩ := row_new x6 (.cells #[.string xS, .slice A6 0 c6, .string ⟨#[]⟩] 28)
  rw [← hx7]
  have HX7 := Lib.hid (step HX6.out hb7)
  have HI2' := Lib.hid (RdS.below HI2.out hb7)
  have HI3 := Lib.hid (RdS.below HI3'.out hb7)
  have HI4' := Lib.hid (RdS.below HI4.out hb7)
  have HY7 := Lib.hid (HY6.out.below hb7)
  have HR7 := Lib.hid (RdS.below HR6.out hb7)
  have HG7 := Lib.hid hg7
  have HTB := Lib.hid (HT.out x7 (HB1.out.trans (HX7.out.mono HB1.out.size)))
  obtain ⟨hc0, hc1, hc2⟩ := three_cells hg7
  clear hx7 hg7 hb7 hz7 HX6 HI2 HI3' HI4 HY6 HR6
  go_wp2_with fail
  refine (name_ex _ x7 HTB.out HR7.out).mono ?_
  rintro e x8 ⟨s, hs, rfl, hx8⟩
  have HX8 := Lib.hid (step HX7.out hx8)
  have HI2 := Lib.hid (RdS.below HI2'.out hx8)
  have HI3' := Lib.hid (RdS.below HI3.out hx8)
  have HI4 := Lib.hid (RdS.below HI4'.out hx8)
  have HY8 := Lib.hid (HY7.out.below hx8)
  have HR8 := Lib.hid (RdS.below HR7.out hx8)
  have HG8 := Lib.hid ((hx8.block _ (block_lt HG7.out)).trans HG7.out)
  clear hx8 HX7 HI2' HI3 HI4' HY7 HR7 HG7 HTB hc0 hc1 hc2
  go_upto_region 10 with (fail)
  go_wp2_with fail
  refine (same_is _ _ [2, 1, 0] _ (RdS.below HI2.out ((Below.refl _ _).alloc (Nat.le_refl _) _)) (irow_new x8 #[.int .i64 2, .int .i64 1, .int .i64 0] 3 [2, 1, 0] rfl (by decide))).mono ?_
  rintro e y1 ⟨rfl, hy1⟩
  have HXy1 := Lib.hid (next HX8.out hy1)
  have HI3 := Lib.hid (RdS.below HI3'.out (next (Below.refl _ _) hy1))
  have HI4' := Lib.hid (RdS.below HI4.out (next (Below.refl _ _) hy1))
  have HYy1 := Lib.hid (HY8.out.below (next (Below.refl _ _) hy1))
  have HRy1 := Lib.hid (RdS.below HR8.out (next (Below.refl _ _) hy1))
  have HGy1 := Lib.hid (((next (Below.refl _ _) hy1).block _ (block_lt HG8.out)).trans HG8.out)
  clear hy1 HX8 HI2 HI3' HI4 HY8 HR8 HG8
  go_wp2_with fail
  refine (same_is _ _ [1, 2] _ (RdS.below HI3.out ((Below.refl _ _).alloc (Nat.le_refl _) _)) (irow_new y1 #[.int .i64 1, .int .i64 2] 3 [1, 2] rfl (by decide))).mono ?_
  rintro e y2 ⟨rfl, hy2⟩
  have HXy2 := Lib.hid (next HXy1.out hy2)
  have HI4 := Lib.hid (RdS.below HI4'.out (next (Below.refl _ _) hy2))
  have HYy2 := Lib.hid (HYy1.out.below (next (Below.refl _ _) hy2))
  have HRy2 := Lib.hid (RdS.below HRy1.out (next (Below.refl _ _) hy2))
  have HGy2 := Lib.hid (((next (Below.refl _ _) hy2).block _ (block_lt HGy1.out)).trans HGy1.out)
  clear hy2 HXy1 HI3 HI4' HYy1 HRy1 HGy1
  go_wp2_with fail
  refine (same_is _ _ [3] _ (RdS.below HI4.out ((Below.refl _ _).alloc (Nat.le_refl _) _)) (irow_new y2 #[.int .i64 3] 3 [3] rfl (by decide))).mono ?_
  rintro e y3 ⟨rfl, hy3⟩
  have HXy3 := Lib.hid (next HXy2.out hy3)
  have HYy3 := Lib.hid (HYy2.out.below (next (Below.refl _ _) hy3))
  have HRy3 := Lib.hid (RdS.below HRy2.out (next (Below.refl _ _) hy3))
  have HGy3 := Lib.hid (((next (Below.refl _ _) hy3).block _ (block_lt HGy2.out)).trans HGy2.out)
  clear hy3 HXy2 HI4 HYy2 HRy2 HGy2
  obtain ⟨hc0, hc1, hc2⟩ := three_cells HGy3.out
  have hcv := conv_ex HYy3.out
  have HRT := Lib.hid (right_ex _ y3 HRy3.out)
  have hxs : xS = ⟨#[120]⟩ := rfl
  rw [hxs] at hc0
  rw [hxs] at HRT
  go_wp2_with fail
  refine HRT.out.mono ?_
  rintro e y4 ⟨rfl, hy4⟩
  have HBF := Lib.hid (HB1.out.trans ((step HXy3.out hy4).mono HB1.out.size))
  clear hy4
  go_wp2
  go_ret
  exact ⟨rfl, HBF.out⟩
end Go.Proofs.YtbniilajffjfcaaGreatDoor
