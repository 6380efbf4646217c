/- Contracts of bears and bounded; a test. -/
import Derived.Test.YtcnedecmmplmoaaGreatDoorCm09
import Derived.Laws.EntriesVeiled
set_option linter.unusedVariables false
set_option linter.unusedSimpArgs false
namespace Go.Proofs.YtcnedecmmplmoaaGreatDoor
open Go.RowKit Go.BigFrame
open Ver (cmpV BL)

def fnId : Nat → FuncId
  | 0 => 120
  | 1 => 121
  | 2 => 123
  | 3 => 124
  | 4 => 125
  | 5 => 126
  | 6 => 127
  | _ => 128
def fnOf (o : Nat) : Value := .func (.func (fnId o)) #[] #[]
theorem kind_any (o : Nat) (h : o ≤ 7) (a b : Value) (xs ys : List Int) (p q : ByteArray) (w : World) (ha : Reads w w.heap.size a (ints xs)) (hb : Reads w w.heap.size b (ints ys)) (hy : o = 7 → 1 ≤ ys.length) (hp : p.size ≤ 1000000) (hq : q.size ≤ 1000000) :
    Calls Tryz.prog (fnId o) #[.agg #[a, .string p], .agg #[b, .string q]] w fun e w' => e = .returned (.bool (opV o (xs, p.data.toList) (ys, q.data.toList))) ∧ Below w.heap.size w w' := by
  rcases op_cases o h with rfl | rfl | rfl | rfl | rfl | rfl | rfl | rfl
  · exact kind_0 a b p q w
  · exact kind_1 a b xs ys p q w ha hb hp hq
  · exact kind_2 a b xs ys p q w ha hb hp hq
  · exact kind_3 a b xs ys p q w ha hb hp hq
  · exact kind_4 a b xs ys p q w ha hb hp hq
  · exact kind_5 a b xs ys p q w ha hb hp hq
  · exact kind_6 a b xs ys p q w ha hb hp hq
  · exact near_any a b xs ys p q w ha hb (hy rfl) hp hq
def fnCells : List Value := [fnOf 0, fnOf 1, fnOf 2, fnOf 3, fnOf 4, fnOf 5, fnOf 6, fnOf 7]
set_option maxRecDepth 100000 in
set_option maxHeartbeats 800000 in
theorem bears_any (o : Nat) (h : o ≤ 7) (w : World) : Calls Tryz.prog 107 #[.int .u8 (o : Int)] w fun e w' => e = .returned (.func (.func (fnId o)) #[] #[]) ∧ Below w.heap.size w w' := by
  have h0 : (0 : Int) ≤ (o : Int) := by omega
  have h8 : (o : Int) < 8 := by omega
  go_enter Tryz.func107, Tryz.ntmps107
  go_upto_region 2 with (fail)
  obtain ⟨W1, hW1, hg1, hb1, _, _⟩ := row_at w w (.cells #[(.func (.func 120) #[] #[]), (.func (.func 121) #[] #[]), (.func (.func 123) #[] #[]), (.func (.func 124) #[] #[]), (.func (.func 125) #[] #[]), (.func (.func 126) #[] #[]), (.func (.func 127) #[] #[]), (.func (.func 128) #[] #[])] 163) (Below.refl _ _)
  rw [← hW1]
  clear hW1
  have hc : W1.cell? ⟨w.heap.size, o, none⟩ = some (fnOf o) := by
    rw [cell_of_row _ _ _ _ _ _ hg1]
    rcases op_cases o h with rfl | rfl | rfl | rfl | rfl | rfl | rfl | rfl <;> rfl
  unfold fnOf at hc
  obtain ⟨fo, hfo⟩ : ∃ fo, fo = fnId o := ⟨_, rfl⟩
  rw [← hfo] at hc
  have HFO := Lib.hid hfo
  clear hfo
  clear hg1
  go_wp2
  exact bodyPost_ret (v := .func (.func fo) #[] #[]) (by simp [results, Tryz.results107, go_sem]) rfl ⟨by rw [HFO.out], hb1⟩
def zeroVV : Value := .agg #[.slice none 0 0, .string ⟨#[]⟩]
theorem mayB_zero (v : ByteArray) : mayB (0, v) = decide (v.size = 0) := by
  unfold mayB Rng.mayL bdL
  rw [if_pos rfl, Bool.eq_iff_iff, List.isEmpty_iff, decide_eq_true_eq]
  constructor
  · intro h
    have := congrArg List.length h
    rw [len_data] at this; exact this
  · intro h; exact List.eq_nil_of_length_eq_zero (by rw [len_data]; exact h)
theorem mayB_pos (o : Nat) (v : ByteArray) (h : o ≠ 0) : mayB (o, v) = (decide (o ≤ 7) && okS v) := by
  unfold mayB Rng.mayL bdL
  rw [if_neg h]; rfl
theorem verOf_nil : verOf ⟨#[]⟩ = ([], []) := by decide
/-- What bounded answers. -/
def Bounded (b : Bd) (w : World) (e : Ending) (w' : World) : Prop :=
  ∃ v t, e = .returned (.tuple #[.agg #[v, .string t], .bool (mayB b)]) ∧ (∃ A n cap, v = .slice A n cap) ∧ Below w.heap.size w w' ∧
    (mayB b = true → RdS w' (fun g => w.heap.size ≤ g) v (verOf b.2).1.length (ints (verOf b.2).1) ∧ t.data.toList = (verOf b.2).2 ∧ t.size ≤ 16)
set_option maxRecDepth 100000 in
set_option maxHeartbeats 800000 in
theorem bounded_zero (v : ByteArray) (w : World) : Calls Tryz.prog 106 #[.agg #[.int .u8 0, .string v]] w (Bounded (0, v) w) := by
  have HM := Lib.hid (show v.toList.isEmpty = mayB (0, v) by rw [mayB_zero, Lib.toList_data, Bool.eq_iff_iff, List.isEmpty_iff, decide_eq_true_eq, ← len_data]; exact List.length_eq_zero_iff.symm)
  go_enter Tryz.func106, Tryz.ntmps106
  go_upto_region 2 with (fail)
  obtain ⟨W1, hW1, hg0, hg1, hb1, hz1⟩ := rows2 w (.cells #[.int .u8 0, .string v] 57) (.cells #[.slice none 0 0, .string ⟨#[]⟩] 101)
  rw [← hW1]
  clear hW1
  obtain ⟨hc0, hc1, _, _⟩ := cell_two hg0
  obtain ⟨hd0, hd1, hf0, hf1⟩ := cell_two hg1
  clear hg0 hg1 hz1
  go_region
  all_goals
    go_wp2
    refine bodyPost_ret (v := .tuple #[.agg #[.slice none 0 0, .string ⟨#[]⟩], .bool v.toList.isEmpty]) (by simp [results, Tryz.results106, go_sem, hd0, hd1, hf0, hf1]) rfl ⟨_, _, by rw [HM.out], ⟨_, _, _, rfl⟩, ?_, fun h => ?_⟩
    · exact ((hb1.setCell (by simp) _).setCell (by simp) _).drew
    · have hv : v.size = 0 := by rw [mayB_zero] at h; simpa using h
      obtain rfl : v = ⟨#[]⟩ := str_ext (List.eq_nil_of_length_eq_zero (by rw [len_data]; exact hv))
      rw [verOf_nil]
      exact ⟨RdS.nil _ _, rfl, by decide⟩
theorem RdS.fresh {w' : World} {A : Option Addr} {n cap b : Nat} {xs : List Int} (h : Reads w' w'.heap.size (.slice A n cap) (ints xs)) (hl : ∀ ad, A = some ad → b ≤ ad.block ∧ ad.block < w'.heap.size) : RdS w' (fun g => b ≤ g) (.slice A n cap) xs.length (ints xs) := by
  obtain ⟨A', cap', e, h1, h2, h3, h4⟩ := h
  rw [ints_len] at e h1 h4
  cases e
  exact ⟨A, cap, rfl, h1, h2, h3, fun hn => by
    obtain ⟨ad, e2, hb, hc⟩ := h4 hn
    exact ⟨ad, e2, hb, (hl ad e2).1, hc⟩⟩
set_option maxRecDepth 100000 in
set_option maxHeartbeats 800000 in
theorem bounded_pos (o : Nat) (h0 : o ≠ 0) (v : ByteArray) (w : World) (hv : v.size ≤ 1000000) : Calls Tryz.prog 106 #[.agg #[.int .u8 (o : Int), .string v]] w (Bounded (o, v) w) := by
  have HM := Lib.hid (mayB_pos o v h0)
  have hne : ((o : Int) == 0) = false := by rw [beq_eq_false_iff_ne]; omega
  clear h0
  go_enter Tryz.func106, Tryz.ntmps106
  go_upto_region 3 with (fail)
  obtain ⟨W1, hW1, hg0, hg1, hb1, hz1⟩ := rows2 w (.cells #[.int .u8 (o : Int), .string v] 57) (.cells #[.slice none 0 0, .string ⟨#[]⟩] 101)
  rw [← hW1]
  clear hW1
  obtain ⟨hc0, hc1, _, _⟩ := cell_two hg0
  have HZ := Lib.hid hz1
  have HB1 := Lib.hid hb1
  clear hz1 hb1
  cases ho : okS v
  · have HO := Lib.hid ho
    have HF := Lib.hid (show mayB (o, v) = false by rw [HM.out, ho, Bool.and_false])
    clear ho
    go_wp2_with fail
    refine (parse_no v _ hv HO.out).mono ?_
    rintro e w2 ⟨rfl, hb2⟩
    have hb := below_step HB1.out hb2 HB1.out.size
    have hlt : w.heap.size + 1 < w2.heap.size := by have := hb2.size; have := HZ.out; omega
    have hg0' := (hb2.block w.heap.size (by have := HZ.out; omega)).trans hg0
    have hg1' := (hb2.block (w.heap.size + 1) (by have := HZ.out; omega)).trans hg1
    go_upto_region 4 with (fail)
    obtain ⟨w3, hw3, hg3, hb23, _, hb3⟩ := row_at w w2 (.cells #[.slice none 0 0, .string ⟨#[]⟩] 101) hb
    rw [← hw3]
    clear hw3 hc0 hc1 hb
    obtain ⟨hc0, hc1, _, _⟩ := cell_two ((hb23.block w.heap.size (by omega)).trans hg0')
    obtain ⟨hd0, hd1, hf0, hf1⟩ := cell_two ((hb23.block (w.heap.size + 1) (by omega)).trans hg1')
    obtain ⟨he0, he1, _, _⟩ := cell_two hg3
    clear hg0 hg1 hg0' hg1' hg3 hb23 hb2
    go_wp2
    all_goals
      refine bodyPost_ret (v := .tuple #[.agg #[.slice none 0 0, .string ⟨#[]⟩], .bool false]) (by simp [results, Tryz.results106, go_sem, hd0, hd1, hf0, hf1]) rfl ⟨_, _, by rw [HF.out], ⟨_, _, _, rfl⟩, ?_, fun h => ?_⟩
      · exact (hb3.setCell (by simp) _).setCell (by simp) _
      · rw [HF.out] at h; cases h
  · have HO := Lib.hid ho
    have HF := Lib.hid (show mayB (o, v) = decide (o ≤ 7) by rw [HM.out, ho, Bool.and_true])
    clear ho
    go_wp2_with fail
    refine (parse_yes v _ hv HO.out).mono ?_
    rintro e w2 ⟨u, t, rfl, hR, htl, htz, hb2, ⟨A, n, cap, rfl, hfr⟩⟩
    have hb := below_step HB1.out hb2 HB1.out.size
    have hlt : w.heap.size + 1 < w2.heap.size := by have := hb2.size; have := HZ.out; omega
    have hg0' := (hb2.block w.heap.size (by have := HZ.out; omega)).trans hg0
    have hg1' := (hb2.block (w.heap.size + 1) (by have := HZ.out; omega)).trans hg1
    have HRF := Lib.hid (RdS.fresh (b := w.heap.size + 2) hR fun ad e => ⟨Nat.le_trans (by have := HZ.out; omega) (hfr ad e).1, (hfr ad e).2⟩)
    clear hR hfr
    have HTL := Lib.hid htl
    clear htl
    go_upto_region 4 with (fail)
    obtain ⟨w3, hw3, hg3, hb23, _, hb3⟩ := row_at w w2 (.cells #[.slice A n cap, .string t] 101) hb
    rw [← hw3]
    clear hw3 hc0 hc1 hb
    obtain ⟨hc0, hc1, _, _⟩ := cell_two ((hb23.block w.heap.size (by omega)).trans hg0')
    obtain ⟨hd0, hd1, hf0, hf1⟩ := cell_two ((hb23.block (w.heap.size + 1) (by omega)).trans hg1')
    obtain ⟨he0, he1, _, _⟩ := cell_two hg3
    have HR3 := Lib.hid (HRF.out.below hb23)
    clear hg0 hg1 hg0' hg1' hg3 hb23 hb2 HRF
    by_cases ho7 : o ≤ 7
    · have ho7' : (o : Int) ≤ 7 := by omega
      have HG := Lib.hid (show mayB (o, v) = true by rw [HF.out, decide_eq_true ho7])
      go_wp2
      refine bodyPost_ret (v := .tuple #[.agg #[.slice A n cap, .string t], .bool true]) (by simp [results, Tryz.results106, go_sem, hd0, hd1, hf0, hf1]) rfl ⟨_, _, by rw [HG.out], ⟨_, _, _, rfl⟩, ?_, fun h => ⟨?_, HTL.out, htz⟩⟩
      · exact (hb3.setCell (by simp) _).setCell (by simp) _
      · refine (HR3.out.keep ⟨by simp, fun b hb hS => ?_⟩).weak fun b _ hS => by omega
        rw [heap_setCell_other _ _ _ _ (by show b ≠ w.heap.size + 1; omega), heap_setCell_other _ _ _ _ (by show b ≠ w.heap.size + 1; omega)]
    · have ho7' : ¬ (o : Int) ≤ 7 := by omega
      have HG := Lib.hid (show mayB (o, v) = false by rw [HF.out, decide_eq_false ho7])
      go_wp2
      refine bodyPost_ret (v := .tuple #[.agg #[.slice A n cap, .string t], .bool false]) (by simp [results, Tryz.results106, go_sem, hd0, hd1, hf0, hf1]) rfl ⟨_, _, by rw [HG.out], ⟨_, _, _, rfl⟩, ?_, fun h => ?_⟩
      · exact (hb3.setCell (by simp) _).setCell (by simp) _
      · rw [HG.out] at h; cases h
end Go.Proofs.YtcnedecmmplmoaaGreatDoor

/- Tests in memory. -/
namespace Go.Proofs.YtcnedecmmplmoaaGreatDoor
open Go.RowKit Go.BigFrame
open Ver (cmpV BL)

structure Tst where
  op : Nat
  v : Value
  xs : List Int
  tag : ByteArray
def Tst.enc (t : Tst) : List Value := [fnOf t.op, t.v, .string t.tag]
def Tst.key (t : Tst) : Nat × List Int × BL := (t.op, t.xs, t.tag.data.toList)
def keyB (b : Bd) : Nat × List Int × BL := (b.1, (verOf b.2).1, (verOf b.2).2)
def tstCells (ts : List Tst) : List Value := ts.flatMap Tst.enc
theorem tstCells_snoc (ts : List Tst) (t : Tst) : tstCells (ts ++ [t]) = tstCells ts ++ t.enc := by simp [tstCells]
def TOk (w : World) (S : Nat → Prop) (t : Tst) : Prop := RdS w S t.v t.xs.length (ints t.xs) ∧ t.tag.size ≤ 16 ∧ t.op ≤ 7
theorem TOk.keep {w w' : World} {S : Nat → Prop} {t : Tst} (h : TOk w S t) (hs : SameS w w' S) : TOk w' S t := ⟨h.1.keep hs, h.2⟩
theorem TOk.weak {w : World} {S S' : Nat → Prop} {t : Tst} (h : TOk w S t) (hw : ∀ b, b < w.heap.size → S b → S' b) : TOk w S' t := ⟨h.1.weak hw, h.2⟩
def TRow (w : World) (S : Nat → Prop) (v : Value) (row : List Bd) : Prop :=
  ∃ ts : List Tst, RdS w S v row.length (tstCells ts) ∧ (∀ t ∈ ts, TOk w S t) ∧ ts.map Tst.key = row.map keyB
theorem TRow.keeps : Keeps TRow :=
  ⟨fun ⟨ts, h1, h2, h3⟩ hs => ⟨ts, h1.keep hs, fun t ht => (h2 t ht).keep hs, h3⟩, fun ⟨ts, h1, h2, h3⟩ hw => ⟨ts, h1.weak hw, fun t ht => (h2 t ht).weak hw, h3⟩⟩
theorem TOk.step {w w' : World} {c gg : Nat} {p : Option Nat} {t : Tst} (h : TOk w (fun b => c ≤ b ∧ p ≠ some b) t) (hs : SameS w w' (fun b => p ≠ some b)) (hg : p = some gg ∨ w.heap.size ≤ gg) : TOk w' (fun b => c ≤ b ∧ some gg ≠ some b) t := by
  refine (h.weak (S' := fun b => c ≤ b ∧ p ≠ some b ∧ some gg ≠ some b) fun b hb hS => ⟨hS.1, hS.2, ?_⟩).keep (hs.weak fun b _ hS => hS.2.1) |>.weak fun b _ hS => ⟨hS.1, hS.2.2⟩
  rcases hg with e | hg
  · rw [← e]; exact hS.2
  · intro e; cases e; omega
theorem items_moved {α : Type} {R : World → (Nat → Prop) → Value → α → Prop} (K : Keeps R) {w w' : World} {v v' : Value} {vs : List Value} {r : List α} (h : ItemsS R w (fun b => v.ownBlock ≠ some b) vs r) (hs : SameS w w' (fun b => v.ownBlock ≠ some b)) (hm : Moved w v v') : ItemsS R w' (fun b => v'.ownBlock ≠ some b) vs r := by
  refine ((h.weak K (S' := fun b => v.ownBlock ≠ some b ∧ v'.ownBlock ≠ some b) fun b hb hS => ⟨hS, ?_⟩).keep K (hs.weak fun b _ hS => hS.1)).weak K fun b _ hS => hS.2
  rcases hm with e | ⟨g, e, hg⟩
  · rw [e]; exact hS
  · rw [e]; intro e2; cases e2; omega
theorem infoTest : (Tryz.prog.info? 153).map (fun i => (i.zero, i.size, i.bytes)) = some (some (.agg #[.nilFunc, .slice none 0 0, .string ⟨#[]⟩]), 3, 48) := by kernel_rfl
theorem infoTRow : (Tryz.prog.info? 147).map (fun i => (i.zero, i.size, i.bytes)) = some (some (.slice none 0 0), 1, 24) := by kernel_rfl
theorem infoBound : (Tryz.prog.info? 57).map (fun i => (i.zero, i.size, i.bytes)) = some (some (.agg #[.int .u8 0, .string ⟨#[]⟩]), 2, 24) := by kernel_rfl
theorem infoBRow : (Tryz.prog.info? 58).map (fun i => (i.zero, i.size, i.bytes)) = some (some (.slice none 0 0), 1, 24) := by kernel_rfl
theorem KeepW.alloc {W1 w' : World} {B : Nat} (h : KeepW W1 B w') (o : Obj) : KeepW W1 B (w'.alloc o) := ⟨h.1.alloc h.2 o, by simp; exact Nat.le_succ_of_le h.2⟩
theorem KeepW.below {W1 w' w2 : World} {B : Nat} (h : KeepW W1 B w') (h2 : Below w'.heap.size w' w2) : KeepW W1 B w2 := ⟨below_step h.1 h2 h.2, Nat.le_trans h.2 h2.size⟩
theorem all_next {α : Type} (f : α → Bool) (l : List α) (k : Nat) (x : α) (hk : l[k]? = some x) (h : (l.take k).all f = true) (hx : f x = true) : (l.take (k + 1)).all f = true := by
  obtain ⟨hl, e⟩ := List.getElem?_eq_some_iff.1 hk
  rw [List.take_succ_eq_append_getElem hl, List.all_append, h, e, List.all_cons, hx]; rfl
theorem all_bad {α : Type} (f : α → Bool) (l : List α) (k : Nat) (x : α) (hk : l[k]? = some x) (hx : f x = false) : l.all f = false := by
  rw [Bool.eq_false_iff]
  intro h
  have := List.all_eq_true.1 h x (List.mem_of_getElem? hk)
  rw [hx] at this; cases this
theorem take_next {α : Type} (l : List α) (k : Nat) (x : α) (hk : l[k]? = some x) : l.take (k + 1) = l.take k ++ [x] := by
  obtain ⟨hl, e⟩ := List.getElem?_eq_some_iff.1 hk
  rw [List.take_succ_eq_append_getElem hl, e]
theorem getD_get {α : Type} (l : List α) (k : Nat) (d : α) (hk : k < l.length) : l[k]? = some (l.getD k d) := by simp [hk]
theorem mayR_long (r : List (List Bd)) (h : 16 < r.length) : mayR r = false := by unfold mayR; rw [decide_eq_false (by omega), Bool.false_and]
theorem mayR_row (r : List (List Bd)) (k : Nat) (row : List Bd) (hk : r[k]? = some row) (h : mayRow row = false) : mayR r = false := by unfold mayR; rw [all_bad mayRow r k row hk h, Bool.and_false]
theorem mayRow_len (row : List Bd) (h : ¬ (1 ≤ row.length ∧ row.length ≤ 16)) : mayRow row = false := by unfold mayRow; rw [decide_eq_false h, Bool.false_and]
theorem mayRow_bd (row : List Bd) (k : Nat) (b : Bd) (hk : row[k]? = some b) (h : mayB b = false) : mayRow row = false := by unfold mayRow; rw [all_bad mayB row k b hk h, Bool.and_false]
theorem cell_grown {w w' : World} {row : Option Nat} {b j : Nat} {v : Value} (h : w.cell? ⟨b, j, none⟩ = some v) (hg : w.grownBy w' row) (hne : row ≠ some b) : w'.cell? ⟨b, j, none⟩ = some v := by
  have hb := hg.block b (block_lt_of_cell h) (fun e => hne e.symm)
  unfold World.cell? at h ⊢
  rw [hb]; exact h
/-- append of one value of several cells, to a row of the call's own. -/
theorem wpList_appK {P : Program} {w : World} {ops : Array Oper} {rest : List Oper} {o : Oper} {a : Act} {Q : Exit → Act → World → Prop} (hgd : o.guard = none) (s x : Operand) (t : TypeId)
    (ho : o.op = .call { callee := .builtin .append, args := #[s, x], argTypes := #[t, t] })
    (base : Nat) (e : TypeId) (i : TypeInfo) (z : Value) (size bytes : Nat) (ht : P.underlying t = some (.slice e)) (hi : P.info? e = some i) (hz : i.zero = some z) (hs1 : i.size = size) (hb1 : i.bytes = bytes) (hzs : z.cells.size = size) (hsz : 0 < size)
    (v : Value) (n : Nat) (xs : List Value) (hs : a.eval s = v) (hown : w.ownsRow base e size v n xs) (ad : Addr) (m c : Nat) (news : List Value) (hx : a.eval x = .slice (some ad) m c) (hl : news.length = m * size)
    (hnews : ∀ j u, news[j]? = some u → w.cell? (ad.add j) = some u) (h1 : ∀ u ∈ news, u.oneCell' = true)
    (h63 : n + m ≤ maxLen) (hbytes : (n + m) * bytes ≤ 140737488355328) (hbase : base ≤ w.heap.size)
    (h : ∀ v' w', w'.ownsRow base e size v' (n + m) (xs ++ news) → w.grownBy w' v.ownBlock → Moved w v v' → wpList P ops Q rest (a.put o.dst v') w') : wpList P ops Q (o :: rest) a w :=
  wpList_plain hgd fun _ hK => by
    obtain ⟨v', w', hr, h2, h3, _⟩ := run_append_own (P := P) w base t o.type e i z size bytes ht hi hz hs1 hb1 hzs hsz v n xs hown ad m c news hl hnews h1 h63 hbytes hbase
    have hm := append_moved base t o.type e i z size bytes ht hi hz hs1 hb1 hzs hsz v n xs hown ad m c news hl hnews h1 h63 hbytes v' w' hr
    unfold Oper.wp execOp
    simp only [ho, resolve, invoke, builtin, Sem.run_bind, Sem.run_pure, Result.andThen_ok, List.map_toArray, List.map_cons, List.map_nil, hs, hx, hr]
    exact hK _ _ (h v' w' h2 h3 hm)
/-- All bounds' versions are short. -/
def Short (r : List (List Bd)) : Prop := ∀ row ∈ r, ∀ b ∈ row, b.2.size ≤ 1000000
theorem bounded_any (b : Bd) (w : World) (hv : b.2.size ≤ 1000000) : Calls Tryz.prog 106 #[.agg #[.int .u8 (b.1 : Int), .string b.2]] w (Bounded b w) := by
  obtain ⟨o, v⟩ := b
  by_cases h0 : o = 0
  · subst h0; exact bounded_zero v w
  · exact bounded_pos o h0 v w hv
theorem mayB_le (b : Bd) (h : mayB b = true) : b.1 ≤ 7 := by
  unfold mayB Rng.mayL bdL at h
  split at h
  · rename_i h0; dsimp only at h0; omega
  · simp at h; exact h.1
end Go.Proofs.YtcnedecmmplmoaaGreatDoor
