/- catalogue in plain maths: lines, words, what a line does to a reader's state. -/
import Derived.Test.YtcnedecmmplmoaaGreatDoorCm20
import Derived.Test.YtcnedecmmplmoaaGreatDoorCm18
import Derived.Test.YtcnedecmmplmoaaGreatDoorCm22
import Derived.Test.YtcnedecmmplmoaaGreatDoorCm08
import Derived.Test.YtcnedecmmplmoaaGreatDoorCm03
import Derived.RangeFuncNested
import Derived.RangeFuncBound
import Derived.RangeFuncCalls
import Derived.RangeFuncLeaves
import Derived.RecoverIn
import Derived.Test.YtcnedecmmplmoaaGreatDoorProg
set_option linter.unusedVariables false
set_option linter.unusedSimpArgs false
namespace Go.Proofs.YtcnedecmmplmoaaGreatDoor
open Go Go.RowKit Go.BigFrame
open Ver (cmpV BL parts brk)

/-- The lines of a text, without their ends. -/
def lnsL : BL → List BL
  | [] => []
  | c :: r => if c = 10 then [] :: lnsL r else match lnsL r with
    | [] => [[c]]
    | p :: ps => (c :: p) :: ps
theorem lnsL_brk : ∀ l : BL, l ≠ [] → lnsL l = (brk 10 l).1 :: lnsL (brk 10 l).2.1
  | [], h => absurd rfl h
  | c :: r, _ => by
    by_cases hc : c = 10
    · subst hc
      simp [lnsL, brk]
    · by_cases hr : r = []
      · subst hr
        simp [lnsL, brk, hc]
      · have ih := lnsL_brk r hr
        simp only [lnsL, brk, if_neg hc]
        rw [ih]
def strL (l : BL) : ByteArray := ⟨l.toArray⟩
theorem strL_list (s : ByteArray) : strL s.data.toList = s := by unfold strL; simp
theorem list_strL (l : BL) : (strL l).data.toList = l := by unfold strL; simp
def lnsB (s : ByteArray) : List ByteArray := (lnsL s.data.toList).map strL
theorem lns_nil (s : ByteArray) (h : s.size = 0) : lnsB s = [] := by
  have : s.data.toList = [] := by rw [← List.length_eq_zero_iff, len_data]; exact h
  unfold lnsB; rw [this]; rfl
theorem lns_cons (s : ByteArray) (h : s.size ≠ 0) : lnsB s = bA 10 s :: lnsB (bR 10 s) := by
  have : s.data.toList ≠ [] := fun e => h (by rw [← len_data, e]; rfl)
  unfold lnsB
  rw [lnsL_brk _ this, List.map_cons, bR_list]
  congr 1
theorem brk_le (c : UInt8) : ∀ l : BL, (brk c l).1.length ≤ l.length ∧ (brk c l).2.1.length ≤ l.length ∧ (l ≠ [] → (brk c l).2.1.length < l.length)
  | [] => ⟨Nat.le_refl _, Nat.le_refl _, fun h => absurd rfl h⟩
  | x :: r => by
    obtain ⟨h1, h2, h3⟩ := brk_le c r
    unfold brk
    by_cases hx : x = c
    · simp [hx]
    · simp only [if_neg hx, List.length_cons]
      exact ⟨by omega, by omega, fun _ => by omega⟩
theorem bA_le (c : UInt8) (s : ByteArray) : (bA c s).size ≤ s.size := by
  have := (brk_le c s.data.toList).1
  rw [← bA_list, len_data, len_data] at this; exact this
theorem bR_le (c : UInt8) (s : ByteArray) : (bR c s).size ≤ s.size := by
  have := (brk_le c s.data.toList).2.1
  rw [← bR_list, len_data, len_data] at this; exact this
theorem bR_lt (c : UInt8) (s : ByteArray) (h : s.size ≠ 0) : (bR c s).size < s.size := by
  have := (brk_le c s.data.toList).2.2 (fun e => h (by rw [← len_data, e]; rfl))
  rw [← bR_list, len_data, len_data] at this; exact this
/-- The words of a text. -/
def wrdB (s : ByteArray) : List ByteArray := (parts 32 s.data.toList).map strL
theorem parts_cons (c x : UInt8) (r : BL) : parts c (x :: r) = if x = c then [] :: parts c r else match parts c r with | [] => [[x]] | p :: ps => (x :: p) :: ps := rfl
theorem brk_cons (c x : UInt8) (r : BL) : brk c (x :: r) = if x = c then ([], r, true) else (x :: (brk c r).1, (brk c r).2.1, (brk c r).2.2) := by
  by_cases hx : x = c <;> simp [brk, hx]
theorem parts_brk (c : UInt8) : ∀ l : BL, parts c l = if (brk c l).2.2 = true then (brk c l).1 :: parts c (brk c l).2.1 else [l]
  | [] => rfl
  | x :: r => by
    have ih := parts_brk c r
    rw [parts_cons, brk_cons]
    by_cases hx : x = c
    · simp only [if_pos hx]; rfl
    · simp only [if_neg hx]
      rw [ih]
      cases h : (brk c r).2.2 with
      | true => rfl
      | false => rfl
theorem wrd_yes (s : ByteArray) (h : bF 32 s = true) : wrdB s = bA 32 s :: wrdB (bR 32 s) := by
  unfold wrdB
  rw [parts_brk, if_pos (show (brk 32 s.data.toList).2.2 = true from h), List.map_cons, bR_list]
  congr 1
theorem wrd_no (s : ByteArray) (h : bF 32 s = false) : wrdB s = [s] := by
  unfold wrdB
  rw [parts_brk, if_neg (by rw [show (brk 32 s.data.toList).2.2 = false from h]; decide)]
  simp [strL_list]

/-- A need; a variant. -/
abbrev Nde := ByteArray × List (List Bd)
structure Va where
  name : ByteArray
  ver : ByteArray
  needs : List Nde
  confs : List Nde
  recipe : ByteArray
instance : Inhabited Va := ⟨⟨⟨#[]⟩, ⟨#[]⟩, [], [], ⟨#[]⟩⟩⟩
def needB (n : Nde) : Bool := rightB n.1 && decide (0 < n.2.length) && mayR n.2
theorem lnsL_sum : ∀ l : BL, ((lnsL l).map (fun p => p.length + 1)).sum ≤ l.length + 1
  | [] => Nat.zero_le _
  | c :: r => by
    have ih := lnsL_sum r
    unfold lnsL
    by_cases hc : c = 10
    · rw [if_pos hc]
      simp only [List.map_cons, List.sum_cons, List.length_nil, List.length_cons]
      omega
    · rw [if_neg hc]
      cases hl : lnsL r with
      | nil => simp; 
      | cons p ps =>
        rw [hl] at ih
        simp only [List.map_cons, List.sum_cons, List.length_cons] at ih ⊢
        omega
def sumB (l : List ByteArray) : Nat := (l.map (fun p => p.size + 1)).sum
theorem sumB_snoc (l : List ByteArray) (x : ByteArray) : sumB (l ++ [x]) = sumB l + (x.size + 1) := by simp [sumB]
theorem lns_sum (s : ByteArray) : sumB (lnsB s) ≤ s.size + 1 := by
  have := lnsL_sum s.data.toList
  rw [len_data] at this
  unfold sumB lnsB
  rw [List.map_map]
  refine Nat.le_trans (Nat.le_of_eq ?_) this
  congr 2
theorem sumB_prefix {l m : List ByteArray} (h : l <+: m) : sumB l ≤ sumB m := by
  obtain ⟨t, rfl⟩ := h
  simp [sumB]

/-- What is asked for. -/
def wantR (t : ByteArray) : ByteArray := if bF 64 t = true then bR 64 t else ⟨#[42]⟩
def wantOk (t : ByteArray) : Bool := mayR (rowsB (wantR t)) && rightB (bA 64 t)
def wantOf (t : ByteArray) : Nde := (bA 64 t, rowsB (wantR t))
def wantsOk (s : ByteArray) : Bool := decide ((wrdB s).length ≤ 64) && (wrdB s).all wantOk
def wantsOf (s : ByteArray) : List Nde := (wrdB s).map wantOf
def fitsB (n : Nde) (x : Va) : Bool := decide (x.name = n.1) && allowR n.2 x.ver
def placesL (l : List Va) (n : Nde) (k : Nat) : List Int := ((List.range k).filter fun i => fitsB n (l.getD i default)).map fun (i : Nat) => (i : Int)
def findL (l : List Va) (n : Nde) : List Int := if needB n = true then placesL l n l.length else []

/-- A reader's state: the variants, the last one's recipe apart. -/
abbrev RSt := List Va × ByteArray
def lastV (l : List Va) : Va := l.getD (l.length - 1) default
def setL (l : List Va) (x : Va) : List Va := l.set (l.length - 1) x
def closeS (st : RSt) : List Va := setL st.1 { lastV st.1 with recipe := st.2 }
def dupV (l : List Va) (n v : ByteArray) : Bool := l.any fun x => decide (x.name = n ∧ x.ver = v)
def twoOk (s : ByteArray) : Bool := bF 32 s && decide ((bA 32 s).size ≠ 0) && decide ((bR 32 s).size ≠ 0) && !bF 32 (bR 32 s)
def packOk (l : List Va) (s : ByteArray) : Bool := twoOk s && rightB (bA 32 s) && okS (bR 32 s) && decide (l.length ≠ 2000)
def packE (l : List Va) (s : ByteArray) : Int := if packOk l s = true then (if dupV l (bA 32 s) (bR 32 s) = true then 151 else 0) else 150
def packN (st : RSt) (s : ByteArray) : RSt := (closeS st ++ [⟨bA 32 s, bR 32 s, [], [], ⟨#[]⟩⟩], ⟨#[]⟩)
def rowOk (s : ByteArray) : Bool := twoOk s && rightB (bA 32 s) && mayR (rowsB (bR 32 s))
def needE (l : List Va) (q : List Nde) (s : ByteArray) : Int := if decide (l.length ≠ 0) && rowOk s && decide (q.length ≠ 64) = true then 0 else 150
def needV (s : ByteArray) : Nde := (bA 32 s, rowsB (bR 32 s))
def ndsN (st : RSt) (s : ByteArray) : RSt := (setL st.1 { lastV st.1 with needs := (lastV st.1).needs ++ [needV s] }, st.2)
def cfsN (st : RSt) (s : ByteArray) : RSt := (setL st.1 { lastV st.1 with confs := (lastV st.1).confs ++ [needV s] }, st.2)
def lineE (l : List Va) : Int := if l.length = 0 then 150 else 0
def lineN (st : RSt) (s : ByteArray) : RSt := (st.1, st.2 ++ s ++ ⟨#[10]⟩)
/-- A line's first word, and what stands behind it. -/
def barF (s : ByteArray) : Bool := Lib.hasPrefix s.data.toList [124]
def word1 (s : ByteArray) : ByteArray := if barF s = true then ⟨#[124]⟩ else bA 32 s
def rest1 (s : ByteArray) : ByteArray := if barF s = true then ⟨(Lib.trimPrefix s.data.toList [124]).toArray⟩ else bR 32 s
def pkgW : ByteArray := ⟨#[112, 97, 99, 107, 97, 103, 101]⟩
def ndsW : ByteArray := ⟨#[110, 101, 101, 100, 115]⟩
def cfsW : ByteArray := ⟨#[99, 111, 110, 102, 108, 105, 99, 116, 115]⟩
def barW : ByteArray := ⟨#[124]⟩
def stepE (st : RSt) (s : ByteArray) : Int :=
  if word1 s = pkgW then packE st.1 (rest1 s) else if word1 s = ndsW then needE st.1 (lastV st.1).needs (rest1 s) else
  if word1 s = cfsW then needE st.1 (lastV st.1).confs (rest1 s) else if word1 s = barW then lineE st.1 else 150
def stepN (st : RSt) (s : ByteArray) : RSt :=
  if word1 s = pkgW then packN st (rest1 s) else if word1 s = ndsW then ndsN st (rest1 s) else
  if word1 s = cfsW then cfsN st (rest1 s) else lineN st (rest1 s)
def skipB (s : ByteArray) : Bool := decide (s.size = 0) || decide (s.data.toList.head? = some 35)
/-- What the lines ahead make; nothing, if one of them is wrong. -/
def stepO (o : Option RSt) (s : ByteArray) : Option RSt :=
  match o with
  | none => none
  | some st => if skipB s = true then some st else if stepE st s = 0 then some (stepN st s) else none
def stAt (pre : List ByteArray) : Option RSt := pre.foldl stepO (some ([], ⟨#[]⟩))
theorem stAt_snoc (pre : List ByteArray) (s : ByteArray) : stAt (pre ++ [s]) = stepO (stAt pre) s := by simp [stAt]
/-- What Parse tells: the catalogue, or the first wrong line and its error. -/
def runS : List ByteArray → Nat → RSt → Nat × Int × List Va
  | [], _, st => (0, 0, closeS st)
  | s :: r, n, st => if skipB s = true then runS r (n + 1) st else if stepE st s = 0 then runS r (n + 1) (stepN st s) else (n + 1, stepE st s, [])
def parseV (s : ByteArray) : Nat × Int × List Va := if 262144 < s.size then (0, 3, []) else runS (lnsB s) 0 ([], ⟨#[]⟩)
end Go.Proofs.YtcnedecmmplmoaaGreatDoor

/- What a step may change: all blocks but those of a set stand. -/
namespace Go.Proofs.YtcnedecmmplmoaaGreatDoor
open Go.RowKit Go.BigFrame

structure Ch (w w' : World) (M : Nat → Prop) : Prop where
  os : w'.os = w.os
  tape : w'.tape = w.tape
  output : w'.output = w.output
  size : w.heap.size ≤ w'.heap.size
  block : ∀ k, k < w.heap.size → ¬ M k → w'.heap[k]? = w.heap[k]?
theorem Ch.refl (w : World) (M : Nat → Prop) : Ch w w M := ⟨rfl, rfl, rfl, Nat.le_refl _, fun _ _ _ => rfl⟩
theorem Ch.weak {w w' : World} {M M' : Nat → Prop} (h : Ch w w' M) (hm : ∀ k, k < w.heap.size → M k → M' k) : Ch w w' M' :=
  ⟨h.os, h.tape, h.output, h.size, fun k hk hn => h.block k hk fun c => hn (hm k hk c)⟩
theorem Ch.trans {w w1 w2 : World} {M M' : Nat → Prop} (h : Ch w w1 M) (h2 : Ch w1 w2 M') (hm : ∀ k, k < w.heap.size → M' k → M k) : Ch w w2 M :=
  ⟨h2.os.trans h.os, h2.tape.trans h.tape, h2.output.trans h.output, Nat.le_trans h.size h2.size, fun k hk hn => (h2.block k (Nat.lt_of_lt_of_le hk h.size) fun c => hn (hm k hk c)).trans (h.block k hk hn)⟩
theorem Ch.setCell {w w1 : World} {M : Nat → Prop} (h : Ch w w1 M) {p : Addr} (hp : M p.block) (u : Value) : Ch w (w1.setCell p u) M :=
  ⟨h.os, h.tape, h.output, by simpa using h.size, fun k hk hn => (Below.heap_setCell _ _ _ _ (fun e => hn (by rw [e]; exact hp))).trans (h.block k hk hn)⟩
theorem Ch.alloc {w w1 : World} {M : Nat → Prop} (h : Ch w w1 M) (o : Obj) : Ch w (w1.alloc o) M :=
  ⟨h.os, h.tape, h.output, Nat.le_trans h.size (by simp), fun k hk hn => (Below.heap_alloc _ _ _ (Nat.lt_of_lt_of_le hk h.size)).trans (h.block k hk hn)⟩
theorem Ch.drewN {w w1 : World} {M : Nat → Prop} (h : Ch w w1 M) (q : Nat) : Ch w (w1.drewN q) M := by
  induction q with
  | zero => exact h
  | succ q ih => exact ⟨ih.os, ih.tape, ih.output, ih.size, ih.block⟩
theorem Ch.drew {w w1 : World} {M : Nat → Prop} (h : Ch w w1 M) : Ch w w1.drew M := ⟨h.os, h.tape, h.output, h.size, h.block⟩
theorem Ch.grown {w w1 w2 : World} {M : Nat → Prop} {row : Option Nat} (h : Ch w w1 M) (h2 : w1.grownBy w2 row) (hr : ∀ k, k < w.heap.size → row = some k → M k) : Ch w w2 M :=
  ⟨h2.os.trans h.os, h2.tape.trans h.tape, h2.output.trans h.output, Nat.le_trans h.size h2.size, fun k hk hn => (h2.block k (Nat.lt_of_lt_of_le hk h.size) fun c => hn (hr k hk c.symm)).trans (h.block k hk hn)⟩
theorem Ch.of_below {w w' : World} {B : Nat} (h : Below B w w') (M : Nat → Prop) (hm : ∀ k, k < w.heap.size → B ≤ k → M k) : Ch w w' M :=
  ⟨h.os, h.tape, h.output, h.size, fun k hk hn => h.block k (by
    by_cases c : B ≤ k
    · exact absurd (hm k hk c) hn
    · omega)⟩
theorem Ch.below {w w' : World} {M : Nat → Prop} (h : Ch w w' M) {B : Nat} (hB : B ≤ w.heap.size) (hm : ∀ k, M k → B ≤ k) : Below B w w' :=
  ⟨h.os, h.tape, h.output, h.size, fun k hk => h.block k (by omega) fun c => by have := hm k c; omega⟩
theorem Ch.same {w w' : World} {M : Nat → Prop} (h : Ch w w' M) (S : Nat → Prop) (hs : ∀ b, b < w.heap.size → S b → ¬ M b) : SameS w w' S :=
  ⟨h.size, fun b hb hS => h.block b hb (hs b hb hS)⟩
theorem Ch.cell {w w' : World} {M : Nat → Prop} (h : Ch w w' M) {p : Addr} {v : Value} (hc : w.cell? p = some v) (hm : ¬ M p.block) : w'.cell? p = some v :=
  (World.cell?_of_block (h.block p.block (World.block_lt_of_cell? w p hc) hm)).trans hc
theorem Ch.heap {w w' : World} {M : Nat → Prop} (h : Ch w w' M) {g : Nat} {o : Obj} (hc : w.heap[g]? = some o) (hm : ¬ M g) : w'.heap[g]? = some o :=
  (h.block g (block_lt hc) hm).trans hc
theorem Ch.own {w w' : World} {M : Nat → Prop} (h : Ch w w' M) {base size n : Nat} {e : TypeId} {v : Value} {xs : List Value} (ho : w.ownsRow base e size v n xs) (hm : ∀ b, v.ownBlock = some b → ¬ M b) : w'.ownsRow base e size v n xs := by
  obtain ⟨hl, hz | ⟨g, cap, cur, rfl, hg, hgg, h2⟩⟩ := ho
  · exact ⟨hl, .inl hz⟩
  · exact ⟨hl, .inr ⟨g, cap, cur, rfl, hg, h.heap hgg (hm g rfl), h2⟩⟩
/-- One store into a block that is known whole. -/
theorem blk_set {w : World} {g : Nat} {T : TypeId} {cs : Array Value} (h : w.heap[g]? = some (.cells cs T (0, 0))) (i : Nat) (v : Value) : (w.setCell ⟨g, i, none⟩ v).heap[g]? = some (.cells (cs.setIfInBounds i v) T (0, 0)) :=
  heap_setCell_same w g i cs T v h
theorem blk_cell {w : World} {g : Nat} {T : TypeId} {cs : Array Value} (h : w.heap[g]? = some (.cells cs T (0, 0))) (i : Nat) : w.cell? ⟨g, i, none⟩ = cs[i]? := cell_of_row _ _ _ _ _ _ h
theorem blk_free {w : World} {g : Nat} {T : TypeId} {cs : Array Value} (h : w.heap[g]? = some (.cells cs T (0, 0))) (i : Nat) : w.frozen? ⟨g, i, none⟩ = false := frozen_of_row _ _ _ _ _ h
theorem heap_drewN (w : World) (q : Nat) : (w.drewN q).heap = w.heap := by
  induction q with
  | zero => rfl
  | succ q ih => exact ih
/-- A row that is not nil: where it lies. -/
theorem own_at {w : World} {base n : Nat} {e : TypeId} {v : Value} {xs : List Value} (h : w.ownsRow base e 1 v n xs) (hn : 0 < n) : ∃ g cap, v = .slice (some ⟨g, 0, none⟩) n cap ∧ base ≤ g ∧ g < w.heap.size ∧ n ≤ cap ∧ cap ≤ maxLen := by
  rcases h.2 with ⟨_, e⟩ | ⟨g, cap, cur, rfl, hg, hgg, hnc, hcm, _, _⟩
  · omega
  · exact ⟨g, cap, rfl, hg, block_lt hgg, hnc, hcm⟩
/-- The row's first n cells are a row too. -/
theorem own_cut {w : World} {base n m cap : Nat} {e : TypeId} {p : Option Addr} {xs : List Value} (h : w.ownsRow base e 1 (.slice p n cap) n xs) (hp : p ≠ none) (hm : m ≤ n) : w.ownsRow base e 1 (.slice p m cap) m (xs.take m) := by
  have hl := h.1
  rcases h.2 with ⟨e', _⟩ | ⟨g, cap', cur, e', hg, hgg, hnc, hcm, hcs, htake⟩
  · simp only [Value.slice.injEq] at e'; exact absurd e'.1 hp
  · simp only [Value.slice.injEq, true_and] at e'
    obtain ⟨rfl, rfl⟩ := e'
    refine ⟨by rw [List.length_take]; omega, .inr ⟨g, cap, cur, rfl, hg, hgg, by omega, hcm, hcs, ?_⟩⟩
    rw [← htake, List.take_take]
    congr 1
    omega
end Go.Proofs.YtcnedecmmplmoaaGreatDoor

/- catalogue: contracts of words, lines, first, two. -/
namespace Go.Proofs.YtcnedecmmplmoaaGreatDoor
open Go Go.RowKit Go.BigFrame
open Ver (cmpV BL parts brk)

theorem indexByte_bF (c : UInt8) (s : ByteArray) : decide (0 ≤ Lib.indexByte s.data.toList c) = bF c s := by
  rw [indexByte_brk]
  show _ = (brk c s.data.toList).2.2
  cases h : (brk c s.data.toList).2.2 <;> simp
theorem contains_is (b : Bool) (c : UInt8) (s : ByteArray) (w : World) (h : bF c s = b) : Calls Tryz.prog 117 #[.string s, .string ⟨#[c]⟩] w fun e w' => e = .returned (.bool b) ∧ w' = w := by
  have := Tryz.strings_Contains_one s c w
  rwa [indexByte_bF, h] at this
theorem empty_yes (s : ByteArray) (h : s.size = 0) : s.toList = [] ∧ s.toList.isEmpty = true ∧ (s.toList == (⟨#[]⟩ : ByteArray).toList) = true := by
  have := toList_eq_nil s h
  exact ⟨this, by rw [this]; rfl, by rw [this, toList_eq_nil ⟨#[]⟩ rfl]; rfl⟩
theorem empty_no (s : ByteArray) (h : ¬ s.size = 0) : ¬ s.toList = [] ∧ s.toList.isEmpty = false ∧ (s.toList == (⟨#[]⟩ : ByteArray).toList) = false := by
  have h1 : ¬ s.toList = [] := fun e => h (by
    rw [ByteArray.toList_eq] at e
    rw [← len_data, e]; rfl)
  refine ⟨h1, by cases hc : s.toList <;> simp_all, ?_⟩
  rw [str_ne_iff]
  exact decide_eq_false (fun e => h (by rw [e]; rfl))
def TwoPost (s : ByteArray) (w : World) (e : Ending) (w' : World) : Prop := e = .returned (.tuple #[.string (bA 32 s), .string (bR 32 s), .bool (twoOk s)]) ∧ ∃ nq, w' = w.drewN nq
set_option maxRecDepth 100000 in
set_option maxHeartbeats 2000000 in
theorem two_any (s : ByteArray) (w : World) (hs : s.size ≤ maxLen) : Calls Tryz.prog 102 #[.string s] w (TwoPost s w) := by
  obtain ⟨a, ha⟩ : ∃ a, a = bA 32 s := ⟨_, rfl⟩
  obtain ⟨r, hr⟩ : ∃ r, r = bR 32 s := ⟨_, rfl⟩
  cases h0 : bF 32 s with
  | false =>
    have HC := Lib.hid (cut_is false 32 s w hs h0)
    have HP := Lib.hid (fun w' nq (h : w' = w.drewN nq) => (show TwoPost s w (.returned (.tuple #[.string a, .string r, .bool false])) w' from ⟨by unfold twoOk; rw [h0, ha, hr]; rfl, nq, h⟩))
    rw [← ha, ← hr] at HC
    clear h0 hs ha hr
    go_enter Tryz.func102, Tryz.ntmps102
    go_wp2_with (go_at_call 76; refine HC.out.mono ?_; rintro e w' ⟨rfl, nq, rfl⟩)
    go_ret3
    exact HP.out _ _ rfl
  | true =>
    have HC := Lib.hid (cut_is true 32 s w hs h0)
    rw [← ha, ← hr] at HC
    by_cases h1 : a.size = 0
    · have HP := Lib.hid (fun w' nq (h : w' = w.drewN nq) => (show TwoPost s w (.returned (.tuple #[.string a, .string r, .bool false])) w' from ⟨by unfold twoOk; rw [h0, ← ha, ← hr, h1]; rfl, nq, h⟩))
      obtain ⟨hea, hea2, hea3⟩ := empty_yes a h1
      clear h0 hs ha hr h1
      go_enter Tryz.func102, Tryz.ntmps102
      go_wp2_with (go_at_call 76; refine HC.out.mono ?_; rintro e w' ⟨rfl, nq, rfl⟩)
      go_ret3
      exact HP.out _ _ rfl
    · obtain ⟨hea, hea2, hea3⟩ := empty_no a h1
      by_cases h2 : r.size = 0
      · have HP := Lib.hid (fun w' nq (h : w' = w.drewN nq) => (show TwoPost s w (.returned (.tuple #[.string a, .string r, .bool false])) w' from ⟨by unfold twoOk; rw [h0, ← ha, ← hr, h2]; simp, nq, h⟩))
        obtain ⟨her, her2, her3⟩ := empty_yes r h2
        clear h0 hs ha hr h1 h2
        go_enter Tryz.func102, Tryz.ntmps102
        go_wp2_with (go_at_call 76; refine HC.out.mono ?_; rintro e w' ⟨rfl, nq, rfl⟩)
        go_ret3
        exact HP.out _ _ rfl
      · obtain ⟨her, her2, her3⟩ := empty_no r h2
        obtain ⟨b, hb⟩ : ∃ b, bF 32 r = b := ⟨_, rfl⟩
        have HK := Lib.hid (fun w' => contains_is b 32 r w' hb)
        have HP := Lib.hid (fun w' nq (h : w' = w.drewN nq) => (show TwoPost s w (.returned (.tuple #[.string a, .string r, .bool (!b)])) w' from ⟨by unfold twoOk; rw [h0, ← ha, ← hr, hb, decide_eq_true h1, decide_eq_true h2]; rfl, nq, h⟩))
        clear h0 hs ha hr h1 h2 hb
        go_enter Tryz.func102, Tryz.ntmps102
        go_wp2_with (first | (go_at_call 76; refine HC.out.mono ?_; rintro e w' ⟨rfl, nq, rfl⟩) | (go_at_call 117; refine (HK.out _).mono ?_; rintro e w' ⟨rfl, rfl⟩))
        go_ret3
        exact HP.out _ _ rfl
def FirstPost (s : ByteArray) (w : World) (e : Ending) (w' : World) : Prop := e = .returned (.tuple #[.string (word1 s), .string (rest1 s)]) ∧ ∃ nq, w' = w.drewN nq
set_option maxRecDepth 100000 in
set_option maxHeartbeats 2000000 in
theorem first_any (s : ByteArray) (w : World) (hs : s.size ≤ maxLen) : Calls Tryz.prog 40 #[.string s] w (FirstPost s w) := by
  obtain ⟨t, ht⟩ : ∃ t : ByteArray, t = ⟨(Lib.trimPrefix s.data.toList (⟨#[124]⟩ : ByteArray).data.toList).toArray⟩ := ⟨_, rfl⟩
  have HX := Lib.hid (Tryz.strings_CutPrefix s ⟨#[124]⟩ w)
  rw [← ht] at HX
  cases hb : barF s with
  | true =>
    rw [show Lib.hasPrefix s.data.toList (⟨#[124]⟩ : ByteArray).data.toList = true from hb] at HX
    have HP := Lib.hid (show FirstPost s w (.returned (.tuple #[.string ⟨#[124]⟩, .string t])) w from ⟨by unfold word1 rest1; rw [if_pos hb, if_pos hb, ht], 0, rfl⟩)
    clear hb ht hs
    go_enter Tryz.func40, Tryz.ntmps40
    go_wp2_with (go_at_call 77; refine HX.out.mono ?_; rintro e w' ⟨rfl, rfl⟩)
    go_ret2
    exact HP.out
  | false =>
    rw [show Lib.hasPrefix s.data.toList (⟨#[124]⟩ : ByteArray).data.toList = false from hb] at HX
    obtain ⟨a, ha⟩ : ∃ a, a = bA 32 s := ⟨_, rfl⟩
    obtain ⟨r, hr⟩ : ∃ r, r = bR 32 s := ⟨_, rfl⟩
    obtain ⟨b, hf⟩ : ∃ b, bF 32 s = b := ⟨_, rfl⟩
    have HC := Lib.hid (cut_is b 32 s w hs hf)
    have HP := Lib.hid (fun w' nq (h : w' = w.drewN nq) => (show FirstPost s w (.returned (.tuple #[.string a, .string r])) w' from ⟨by unfold word1 rest1; rw [if_neg (by rw [hb]; decide), if_neg (by rw [hb]; decide), ha, hr], nq, h⟩))
    rw [← ha, ← hr] at HC
    clear hb ht hs hf ha hr
    go_enter Tryz.func40, Tryz.ntmps40
    go_wp2_with (first | (go_at_call 77; refine HX.out.mono ?_; rintro e w' ⟨rfl, rfl⟩) | (go_at_call 76; refine HC.out.mono ?_; rintro e w' ⟨rfl, nq, rfl⟩))
    go_ret2
    exact HP.out _ _ rfl
theorem words_any (s : ByteArray) (w : World) : Calls Tryz.prog 52 #[.string s] w fun e w' => e = .returned (.func (.func 87) #[] #[.pointer (some ⟨w.heap.size, 0, none⟩)]) ∧ w' = w.alloc (.cells #[.string s] 9) := by
  go_enter Tryz.func52, Tryz.ntmps52
  go_wp2
  go_ret
  exact ⟨rfl, rfl⟩
theorem lines_any (s : ByteArray) (w : World) : Calls Tryz.prog 39 #[.string s] w fun e w' => e = .returned (.func (.func 75) #[] #[.pointer (some ⟨w.heap.size, 0, none⟩)]) ∧ w' = w.alloc (.cells #[.string s] 9) := by
  go_enter Tryz.func39, Tryz.ntmps39
  go_wp2
  go_ret
  exact ⟨rfl, rfl⟩
end Go.Proofs.YtcnedecmmplmoaaGreatDoor

/- A range over a function whose body may panic: the laws of the kit with one way more out of a round. -/
namespace Go.Proofs.YtcnedecmmplmoaaGreatDoor
open Go Go.RowKit
variable {F : Fence} {n : Nat} {P : Program}
/-- What is asked at a round's end, a panic taken in. -/
def roundPostP (P : Program) (l : Nat) (R : Ending → World → Prop) : Exit → Act → World → Prop
  | .panic chain, a, w => a.defers = [] ∧ R (.panicked chain) w
  | e, a, w => roundPost P l R e a w
theorem roundInP {l : Nat} {f : FuncId} {tmps : Array Value} {assign body : Code} {w : World} {R : Ending → World → Prop} (hF : F.fn f) (hfn : ∃ fn, P.funcs[f]? = some fn)
    (h : assign.wpIn (F.inRound l) n P (Exit.then (fun a₁ w₁ => ∃ w₂, (Instr.beginRound l).run P w₁ = .ok () w₂ ∧ body.wpIn (F.inRound l) n P (roundPostP P l R) a₁ w₂) (fun _ _ _ => False))
      { tmps := tmps, defers := [] } w) :
    RoundIn F n P l f tmps assign body w R := by
  refine ⟨hF, fun c cs hr => ?_⟩
  let b : Frame := { (default : Frame) with fn := f, kind := .normal, roundOf := some l }
  have hb0 : Frame.round l f tmps assign body .normal = b.atR { tmps := tmps, defers := [] } [.code assign, .beginRound, .code body] := by
    simp [Frame.round, Frame.atR, b]
  have hr' : (F.inRound l).room ((c :: cs).length + 1 + n) := hr
  have hF' : (F.inRound l).fn b.fn := hF
  obtain ⟨e, a₁, w₁, hq, harr⟩ := h b [.beginRound, .code body] (c :: cs) rfl hF' hr'
  rw [← hb0] at harr
  cases e with
  | normal =>
    obtain ⟨w₂, hbr, hbody⟩ := hq
    have s1 : StepsIn (Machine.fenced P (F.inRound l)) P (lone (b.atR a₁ [.beginRound, .code body]) (c :: cs) w₁) (lone (b.atR a₁ [.code body]) (c :: cs) w₂) :=
      .one (fenced_calm (fr := b.atR a₁ [.beginRound, .code body]) hF' hr' rfl) (stepR_beginRound rfl hbr)
    obtain ⟨e₂, a₂, w₃, hq₂, harr₂⟩ := hbody b [] (c :: cs) rfl hF' hr'
    cases e₂ with
    | normal =>
      obtain ⟨v, w₄, hend, hR⟩ := hq₂
      exact ⟨.returned v, w₄, hR, (StepsIn.trans harr s1).trans (StepsIn.trans harr₂ (.one (fenced_calm (fr := b.atR a₂ []) hF' hr' rfl) (stepR_round_end rfl rfl hend)))⟩
    | ret =>
      obtain ⟨v, w₄, hend, hR⟩ := hq₂
      obtain ⟨k₁, hs⟩ := harr₂.2 rfl
      exact ⟨.returned v, w₄, hR, (StepsIn.trans harr s1).trans (StepsIn.trans hs (.one (fenced_calm (fr := b.atR a₂ (.code .ret :: k₁)) hF' hr' rfl) (stepR_round_ret rfl rfl hend)))⟩
    | exit id =>
      obtain ⟨v, w₄, hend, hR⟩ := hq₂
      obtain ⟨k₁, hk, hs⟩ := harr₂.2 rfl rfl
      exact ⟨.returned v, w₄, hR, (StepsIn.trans harr s1).trans (StepsIn.trans hs (.one (fenced_calm (fr := b.atR a₂ (.code (.exit id) :: k₁)) hF' hr' rfl) (stepR_round_exit rfl rfl hk hend)))⟩
    | goto t =>
      obtain ⟨v, w₄, hend, hR⟩ := hq₂
      obtain ⟨k₁, hk, hs⟩ := harr₂.2 rfl rfl
      exact ⟨.returned v, w₄, hR, (StepsIn.trans harr s1).trans (StepsIn.trans hs (.one (fenced_calm (fr := b.atR a₂ (.code (.goto t) :: k₁)) hF' hr' rfl) (stepR_round_goto rfl rfl hk hend)))⟩
    | panic chain =>
      obtain ⟨hd, hR⟩ := hq₂
      obtain ⟨todo, hs⟩ := harr₂
      have hleave : ({ b.atR a₂ todo with mode := .panicking chain } : Frame).leaving P w₃ (.panicked chain) := ⟨rfl, hd, hfn⟩
      exact ⟨.panicked chain, w₃, hR, (StepsIn.trans harr s1).trans (StepsIn.trans hs (.one (fenced_leaving (F := F.inRound l) hF' hr' hleave) (step_leave_panicked hleave)))⟩
    | outgrown => exact hq₂.elim
  | exit id => exact hq.elim
  | goto t => exact hq.elim
  | ret => exact hq.elim
  | panic chain => exact hq.elim
  | outgrown => exact hq.elim
/-- A code's walk, of the frames of one function alone. -/
def wpF (f : FuncId) (F : Fence) (n : Nat) (P : Program) (c : Code) (Q : Exit → Act → World → Prop) (a : Act) (w : World) : Prop :=
  ∀ (b : Frame) (k : List Item) (cs : List Frame), b.fn = f → b.roundOf = F.round → F.fn b.fn → F.room (cs.length + 1 + n) →
    ∃ e a' w', Q e a' w' ∧ ArrivesIn (Machine.fenced P F) P (lone (b.atR a (.code c :: k)) cs w) b k cs e a' w'
theorem wpF_in {f : FuncId} {c : Code} {Q : Exit → Act → World → Prop} {a : Act} {w : World} (h : c.wpIn F n P Q a w) : wpF f F n P c Q a w := fun b k cs _ hro hb hr => h b k cs hro hb hr
theorem wpF_seq {f : FuncId} {x y : Code} {Q : Exit → Act → World → Prop} {a : Act} {w : World} (h : wpF f F n P x (Exit.then (wpF f F n P y Q) Q) a w) : wpF f F n P (Code.seq x y) Q a w := by
  intro b k cs hf hro hb hr
  have h0 : (lone (b.atR a (.code (.seq x y) :: k)) cs w).fenced P F := fenced_calm hb hr rfl
  obtain ⟨e, a₁, w₁, hq, harr⟩ := h b (.code y :: k) cs hf hro hb hr
  cases e with
  | normal =>
    obtain ⟨e₂, a₂, w₂, hq₂, harr₂⟩ := hq b k cs hf hro hb hr
    exact ⟨e₂, a₂, w₂, hq₂, .of_steps (.head h0 stepR_seq harr) harr₂⟩
  | exit id => exact ⟨_, a₁, w₁, hq, .of_steps (.one h0 stepR_seq) (.pass (x := .code y) rfl (fun _ _ => .inl (by simp)) harr)⟩
  | goto l => exact ⟨_, a₁, w₁, hq, .of_steps (.one h0 stepR_seq) (.pass (x := .code y) rfl (fun _ _ => .inl (by simp)) harr)⟩
  | ret => exact ⟨_, a₁, w₁, hq, .of_steps (.one h0 stepR_seq) (.pass (x := .code y) rfl (fun _ _ => .inl (by simp)) harr)⟩
  | panic ch => exact ⟨_, a₁, w₁, hq, .of_steps (.one h0 stepR_seq) (.pass (x := .code y) rfl (fun _ _ => .inl (by simp)) harr)⟩
  | outgrown => exact ⟨_, a₁, w₁, hq, .of_steps (.one h0 stepR_seq) (.pass (x := .code y) rfl (fun _ _ => .inl (by simp)) harr)⟩
/-- The first part is walked as anywhere. -/
theorem wpF_seq_in {f : FuncId} {x y : Code} {Q : Exit → Act → World → Prop} {a : Act} {w : World} (h : ∀ K : Act → World → Prop, (∀ a w, wpF f F n P y Q a w → K a w) → x.wpIn F n P (Exit.then K Q) a w) : wpF f F n P (Code.seq x y) Q a w :=
  wpF_seq (wpF_in (h _ fun _ _ h => h))
theorem wpF_block {f : FuncId} {id : Nat} {c : Code} {Q : Exit → Act → World → Prop} {a : Act} {w : World} (h : wpF f F n P c (Exit.inBlock id Q) a w) : wpF f F n P (Code.block id c) Q a w := by
  intro b k cs hf hro hb hr
  have h0 : (lone (b.atR a (.code (.block id c) :: k)) cs w).fenced P F := fenced_calm hb hr rfl
  obtain ⟨e, a₁, w₁, hq, harr⟩ := h b (.inBlock id :: k) cs hf hro hb hr
  cases e with
  | normal => exact ⟨.normal, a₁, w₁, hq, .head h0 stepR_block (StepsIn.trans harr (.one (fenced_calm hb hr rfl) stepR_inBlock))⟩
  | exit id' =>
    by_cases hid : id' = id
    · simp only [Exit.inBlock, hid, if_true] at hq
      exact ⟨.normal, a₁, w₁, hq, .head h0 stepR_block (harr.1 k (by simp [exitTo, hid]))⟩
    · simp only [Exit.inBlock, hid, if_false] at hq
      have this : (id == id') = false := by simp; exact fun h => hid h.symm
      have hx : exitTo id' (.inBlock id :: k) = exitTo id' k := by simp [exitTo, this]
      exact ⟨.exit id', a₁, w₁, hq, fun k' hk => .head h0 stepR_block (harr.1 k' (by rw [hx]; exact hk)),
        fun hr' hk => let ⟨k₁, h1, h2⟩ := harr.2 hr' (by rw [hx]; exact hk); ⟨k₁, h1, .head h0 stepR_block h2⟩⟩
  | goto l =>
    have hx : gotoIn l (.inBlock id :: k) = gotoIn l k := by simp [gotoIn]
    exact ⟨_, a₁, w₁, hq, fun k' hk => .head h0 stepR_block (harr.1 k' (by rw [hx]; exact hk)),
      fun hr' hk => let ⟨k₁, h1, h2⟩ := harr.2 hr' (by rw [hx]; exact hk); ⟨k₁, h1, .head h0 stepR_block h2⟩⟩
  | ret => exact ⟨_, a₁, w₁, hq, .of_steps (.one h0 stepR_block) harr⟩
  | panic ch => exact ⟨_, a₁, w₁, hq, .of_steps (.one h0 stepR_block) harr⟩
  | outgrown => exact ⟨_, a₁, w₁, hq, .of_steps (.one h0 stepR_block) harr⟩
theorem callsIn_of_wpF {f : FuncId} {fn : Func} {c : Code} {args : Array Value} {w : World} {R : Ending → World → Prop}
    (hf : P.funcs[f]? = some fn) (hb : fn.body = some c) (hF : F.fn f)
    (h : wpF f F n P c (bodyPostM F n P fn R) { tmps := args ++ Array.replicate (fn.ntmps - args.size) undef, defers := [] } w) (hro : F.round = none := by rfl) : CallsIn F n P f args w R := by
  refine ⟨hF, fun cs hr => ?_⟩
  let b : Frame := { (default : Frame) with fn := f, kind := .normal, roundOf := none }
  have henter : Frame.enter P f args .normal =
      b.atR { tmps := args ++ Array.replicate (fn.ntmps - args.size) undef, defers := [] } [.code c] := by
    simp [Frame.enter, Frame.atR, hf, hb, b]
  obtain ⟨e, a', w', hq, harr⟩ := h b [] cs rfl hro.symm hF hr
  rw [← henter] at harr
  cases e with
  | normal =>
    obtain ⟨e', w'', fr', hR, hs, hfn, hl⟩ := leaves_stepsInM a'.defers .returning w' { b.atR a' [] with mode := .returning } cs rfl rfl rfl hf rfl hF hr hq
    exact ⟨e', w'', fr', hR, ComesIn.of_steps (StepsIn.trans harr (.one (fenced_calm (fr := b.atR a' []) hF hr rfl) (stepR_end rfl))) hs, hfn, hl⟩
  | ret =>
    obtain ⟨todo, hs₀⟩ := harr.1 rfl
    obtain ⟨e', w'', fr', hR, hs, hfn, hl⟩ := leaves_stepsInM a'.defers .returning w' { b.atR a' todo with mode := .returning } cs rfl rfl rfl hf rfl hF hr hq
    exact ⟨e', w'', fr', hR, ComesIn.of_steps hs₀ hs, hfn, hl⟩
  | panic chain =>
    obtain ⟨todo, hs₀⟩ := harr
    obtain ⟨e', w'', fr', hR, hs, hfn, hl⟩ := leaves_stepsInM a'.defers (.panicking chain) w' { b.atR a' todo with mode := .panicking chain } cs rfl rfl rfl hf rfl hF hr hq
    exact ⟨e', w'', fr', hR, ComesIn.of_steps hs₀ hs, hfn, hl⟩
  | exit id => exact hq.elim
  | goto l => exact hq.elim
  | outgrown => exact ⟨.outgrown, w', b, hq, harr.resolve_left (by simp [b]), rfl, trivial⟩
/-- The statement, of the frames of one function. -/
theorem wpF_rangeFunc {fn : FuncId} {g : Operand} {ps : Array Tmp} {assign body : Code} {Q : Exit → Act → World → Prop} {a : Act} {w : World}
    (h : F.fn fn → ∃ (l : Nat) (mark : List Deferred) (w₁ : World) (d : Deferred) (w₁' : World) (f : FuncId) (args : Array Value) (w₂ : World),
      (Instr.enterLoop fn a.tmps ps assign body F.round).run P w = .ok (l, mark) w₁ ∧
      (resolve a.eval (rangeCall g l) 0).run P w₁ = .ok d w₁' ∧
      (∀ f', Target.leads P w₁' d.target d.args = some f' → F.fn f') ∧
      (invoke d.target d.args).run P w₁' = .ok (.enter f args) w₂ ∧
      (F.depth.isSome = true → 1 ≤ n) ∧
      CallsIn F (n - 1) P f args w₂ (rangePost F n P l Q { a with defers := mark ++ a.defers })) :
    wpF fn F n P (Code.rangeFunc g ps assign body) Q a w := by
  intro b k cs hfb hro hb hr
  subst hfb
  obtain ⟨l, mark, w₁, d, w₁', f, args, w₂, he, hres, hlead, hinv, hn, hF, hcall⟩ := h hb
  rw [← hro] at he
  have h0 : (lone (b.atR a (.code (.rangeFunc g ps assign body) :: k)) cs w).fenced P F := by
    refine fenced_lone (.inl hb) (fun f' hf' => hlead f' ?_) (Fence.room_le hr (by omega))
    have hev := Frame.eval_atR b a (.code (.rangeFunc g ps assign body) :: k)
    simp only [Frame.atR] at hev
    simp only [Frame.about, Frame.atR, he, hev, hres] at hf'
    exact hf'
  have henter := stepR_rangeFunc (P := P) (b := b) (a := a) (k := k) (cs := cs) (w := w) he hres hinv
  have hroom : F.room ((b.atR { a with defers := mark ++ a.defers } (.inRangeFunc l :: k) :: cs).length + 1 + (n - 1)) := Fence.room_enter hr hn
  obtain ⟨e, w₃, fr, hR, hsteps, hfn, hleave⟩ := hcall (b.atR { a with defers := mark ++ a.defers } (.inRangeFunc l :: k) :: cs) hroom
  cases e with
  | outgrown =>
    obtain ⟨a₀, w₀, hq⟩ := hR
    exact ⟨.outgrown, a₀, w₀, hq, .inr (Outgrown.of_steps (.one henter) hsteps)⟩
  | returned v =>
    have hl : (lone fr (b.atR { a with defers := mark ++ a.defers } (.inRangeFunc l :: k) :: cs) w₃).fenced P F := fenced_leaving (hfn ▸ hF) hroom hleave
    obtain ⟨jump, w₄, hend, hj⟩ := hR
    have sback : StepsIn (Machine.fenced P F) P (lone (b.atR a (.code (.rangeFunc g ps assign body) :: k)) cs w) (lone (b.atR { a with defers := mark ++ a.defers } ((jump.map Item.code).toList ++ k)) cs w₄) := by
      refine .head h0 henter (StepsIn.trans hsteps (.head hl ?_ (.one (fenced_calm (fr := b.atR { a with defers := mark ++ a.defers } (.endRangeFunc l :: k)) hb hr rfl) (stepR_endRangeFunc hend))))
      rw [← finish_atR_inRangeFunc l v]; exact step_leave_returned hleave
    cases jump with
    | none => exact ⟨.normal, _, w₄, hj, sback⟩
    | some c =>
      obtain ⟨e', a'', w₅, hq, harr⟩ := hj b k cs hro hb hr
      exact ⟨e', a'', w₅, hq, .of_steps sback harr⟩
  | panicked chain =>
    have hl : (lone fr (b.atR { a with defers := mark ++ a.defers } (.inRangeFunc l :: k) :: cs) w₃).fenced P F := fenced_leaving (hfn ▸ hF) hroom hleave
    refine ⟨.panic chain, _, w₃, hR, .inRangeFunc l :: k, .head h0 henter (StepsIn.trans hsteps (.one hl ?_))⟩
    rw [← Frame.raise_atR]; exact step_leave_panicked hleave
/-- What the caller's invariant abides: new blocks, and the turn of a block from B on that is the iterator's own (it) . -/
def AbidesI {β : Type} (it : Obj → Bool) (B : Nat) (J : β → World → Prop) : Prop :=
  ∀ s A C row, J s A → A.grownBy C row → (∀ r, row = some r → B ≤ r ∧ ∃ o : Obj, A.heap[r]? = some o ∧ it o = true) → J s C
def OwnI {β : Type} (it : Obj → Bool) (B : Nat) (I : β → World → Prop) : Prop :=
  ∀ s A C row, I s A → A.grownBy C row → (∀ r, row = some r → B ≤ r ∧ ∃ o : Obj, A.heap[r]? = some o ∧ (it o = true ∨ o.isCells = false)) → I s C
theorem OwnI.putObj {β : Type} {it : Obj → Bool} {B : Nat} {I : β → World → Prop} (h : OwnI it B I) {s : β} {W : World} {l : Nat} {o : Obj} (o' : Obj) (hs : I s W) (hB : B ≤ l) (hl : W.heap[l]? = some o) (ho : o.isCells = false) : I s (W.putObj l o') :=
  h s W _ (some l) hs (grownBy_putObj' W l o') (fun r e => by cases e; exact ⟨hB, o, hl, .inr ho⟩)
theorem OwnI.alloc {β : Type} {it : Obj → Bool} {B : Nat} {I : β → World → Prop} (h : OwnI it B I) {s : β} {W : World} (o : Obj) (hs : I s W) : I s (W.alloc o) :=
  h s W _ none hs (World.grownBy_alloc W o none) (fun r e => by cases e)
theorem OwnI.and {β : Type} {it : Obj → Bool} {B : Nat} {I J : β → World → Prop} (h : OwnI it B I) (k : OwnI it B J) : OwnI it B (fun s W => I s W ∧ J s W) := fun s A C row hs hg hr => ⟨h s A C row hs.1 hg hr, k s A C row hs.2 hg hr⟩
theorem OwnI.pure {β : Type} {it : Obj → Bool} {B : Nat} (p : β → Prop) : OwnI it B (fun s (_ : World) => p s) := fun _ _ _ _ hs _ _ => hs
theorem OwnI.below {β : Type} {it : Obj → Bool} {B n₀ : Nat} {w₀ : World} (hn : n₀ ≤ B) (h0 : n₀ ≤ w₀.heap.size) : OwnI it B (fun (_ : β) W => Below n₀ w₀ W) := fun _ A C row hs hg hr =>
  hs.grown hg (Nat.le_trans h0 hs.size) (fun k e => by have := (hr k e).1; omega)
/-- What lies in a block of the caller's, of another kind, abides. -/
theorem OwnI.block {β : Type} {it : Obj → Bool} {B : Nat} (g : β → Nat) (f : β → Obj) (hc : ∀ s, (f s).isCells = true) (hit : ∀ s, it (f s) = false) : OwnI it B (fun s W => W.heap[g s]? = some (f s)) := fun s A C row hs hg hr => by
  refine (hg.block (g s) (Array.getElem?_eq_some_iff.1 hs).1 fun e => ?_).trans hs
  obtain ⟨_, o, ho, h⟩ := hr (g s) e.symm
  rw [hs] at ho; cases ho
  rcases h with h | h
  · rw [hit] at h; cases h
  · rw [hc] at h; cases h
/-- The contract of an iterator whose rounds may panic, and that may keep a state of its own in memory. -/
def SeqStopsP {α : Type} (it : Obj → Bool) (F : Fence) (n : Nat) (P : Program) (g : Nat) (lb : Array Value) (encs : α → Array Value) (Kp : World → World → Prop) (S Sp : List α → Prop) (N : Nat) (w : World) : Prop :=
  ∀ (l : Nat) (J Jx : List α → World → Prop) (Jp : List PanicEntry → List α → World → Prop) (W : World), Below w.heap.size w W → AbidesI it W.heap.size J → AbidesI it W.heap.size Jx →
    (∀ pre x W1, J pre W1 → pre.length < N → Sp (pre ++ [x]) → YieldAt F (n - 1) P l (encs x) W1 fun e W' =>
      (e = .returned (.bool true) ∧ J (pre ++ [x]) W' ∧ Kp W1 W') ∨ (e = .returned (.bool false) ∧ Jx (pre ++ [x]) W') ∨ (∃ ch, e = .panicked ch ∧ Jp ch (pre ++ [x]) W')) →
    J [] W →
    CallsIn F n P g (#[.func (.yield l) #[] #[]] ++ lb) W fun e W' => ((∃ v, e = .returned v) ∧ ((∃ xs, S xs ∧ J xs W') ∨ (∃ pre, Sp pre ∧ Jx pre W'))) ∨ (∃ ch pre, e = .panicked ch ∧ Sp pre ∧ Jp ch pre W')
/-- How the body of a round may be left. -/
def ownPostP {α : Type} (B : Nat) (Kp : World → World → Prop) (I : List α → World → Prop) (Ix : Code → List α → World → Prop) (Ip : List PanicEntry → List α → World → Prop) (xs : List α) (W : World) : Exit → Act → World → Prop
  | .panic ch, a, W' => a.defers = [] ∧ KeepsFrom B W W' ∧ Ip ch xs W'
  | e, a, W' => ownPostG B Kp I Ix xs W e a W'
/-- **The statement 'for x := range seq' whose body may panic.** -/
theorem wpF_rangeFunc_own {α : Type} {it : Obj → Bool} (hitl : ∀ r, it (.loop r) = false) (hitd : ∀ d, it (.deferred d) = false) {g : Operand} {ps : Array Tmp} {assign body : Code} {Q : Exit → Act → World → Prop} {a : Act} {w : World}
    (hro : F.round = none) (h1 : 1 ≤ n) {f0 : FuncId} (hf0 : ∃ fn, P.funcs[f0]? = some fn) {gf : Nat} {lb : Array Value} (hg : a.eval g = .func (.func gf) #[] lb) (hFg : F.fn gf) (eg : ∀ args w, (callFunc gf args).run P w = .ok (.enter gf args) w)
    {encs : α → Array Value} {Kp : World → World → Prop} {S Sp : List α → Prop} {N : Nat} {w0 : World} (hseq : SeqStopsP it F (n - 1) P gf lb encs Kp S Sp N w0)
    (hKt : ∀ {A B C : World}, Kp A B → Kp B C → Kp A C) (hKb : ∀ (W : World) (l : Nat) (o o' : Obj), w.heap.size ≤ l → W.heap[l]? = some o → o.isCells = false → o.isWalk = false → Kp W (W.putObj l o')) (hb0 : Below w0.heap.size w0 w) (hps : ∀ x, (encs x).size = ps.size)
    (I : List α → World → Prop) (Ix : Code → List α → World → Prop) (Ip : List PanicEntry → List α → World → Prop) (hI : OwnI it w.heap.size I) (hIx : ∀ c, OwnI it w.heap.size (Ix c)) (h0 : I [] w) (Ax : α → Act → World → Prop) (hAx : ∀ x a', OwnI it w.heap.size (fun (_ : Unit) W => Ax x a' W))
    (hassign : ∀ (l : Nat) (pre : List α) (x : α) (W : World) (K : Act → World → Prop), I pre W → (∀ a' W', KeepsFrom w.heap.size W W' → Kp W W' → I pre W' → Ax x a' W' → K a' W') →
      assign.wpIn (F.inRound l) (n - 1 - 1) P (Exit.then K (fun _ _ _ => False)) { tmps := (ps.zip (encs x)).foldl (fun t (p, v) => t.setIfInBounds p v) a.tmps, defers := [] } W)
    (hbody : ∀ (l : Nat) (pre : List α) (x : α) (a' : Act) (W : World), I pre W → Ax x a' W → pre.length < N → Sp (pre ++ [x]) → body.wpIn (F.inRound l) (n - 1 - 1) P (ownPostP w.heap.size Kp I Ix Ip (pre ++ [x]) W) a' W)
    (hdone : ∀ (D : Nat) (xs : List α) (W : World), w.heap.size ≤ D → S xs → I xs W → W.heap[D]? = some (.deferred (some [])) → Q .normal { a with defers := { target := .collected D, args := #[] } :: a.defers } W)
    (hstop : ∀ (D : Nat) (c : Code) (pre : List α) (W : World), w.heap.size ≤ D → Sp pre → Ix c pre W → W.heap[D]? = some (.deferred (some [])) → c.wpIn F n P Q { a with defers := { target := .collected D, args := #[] } :: a.defers } W)
    (hpanic : ∀ (D : Nat) (ch : List PanicEntry) (pre : List α) (W : World), w.heap.size ≤ D → Sp pre → Ip ch pre W → W.heap[D]? = some (.deferred (some [])) → Q (.panic ch) { a with defers := { target := .collected D, args := #[] } :: a.defers } W) :
    wpF f0 F n P (Code.rangeFunc g ps assign body) Q a w := by
  refine wpF_rangeFunc ?_
  intro hfn
  obtain ⟨fn, hfn0⟩ : ∃ fn, fn = f0 := ⟨_, rfl⟩
  rw [← hfn0] at hfn hf0 ⊢
  rw [hro]
  obtain ⟨rec, hrec⟩ : ∃ rec : LoopState → Option Code → Loop, rec = fun st pe => { state := st, pending := pe, fn, tmps := a.tmps, params := ps, assign, body, defers := w.heap.size } := ⟨_, rfl⟩
  obtain ⟨W1, hW1⟩ : ∃ W1, (w.alloc (.deferred (some []))).alloc (.loop (rec .ready none)) = W1 := ⟨_, rfl⟩
  have hL1 : W1.heap[w.heap.size + 1]? = some (.loop (rec .ready none)) := by
    rw [← hW1]; have := World.alloc_heap_new (w.alloc (.deferred (some []))) (.loop (rec .ready none)); rwa [World.size_alloc] at this
  have hK1 : W1.heap[w.heap.size]? = some (.deferred (some [])) := by
    rw [← hW1]; exact (Below.heap_alloc _ _ _ (by simp)).trans (World.alloc_heap_new w _)
  have hI1 : I [] W1 := by rw [← hW1]; exact hI.alloc _ (hI.alloc _ h0)
  have hb1 : Below w0.heap.size w0 W1 := by
    rw [← hW1]; exact hb0.trans ((((Below.refl _ w).alloc (Nat.le_refl _) _).alloc (by simp) _).mono hb0.size)
  refine ⟨w.heap.size + 1, [{ target := .collected w.heap.size, args := #[] }], W1, { target := .fn (.func gf) lb, args := #[.func (.yield (w.heap.size + 1)) #[] #[]] }, W1, gf,
    #[.func (.yield (w.heap.size + 1)) #[] #[]] ++ lb, W1, ?_, ?_, ?_, ?_, fun _ => h1, ?_⟩
  · rw [← hW1, hrec]; exact run_enterLoop_outer _ _ _ _ _
  · simp only [resolve, hg]
    simp [go_sem]
  · intro f' hf'; simp [Target.leads] at hf'; subst hf'; exact hFg
  · simp [invoke, go_sem, eg]
  · have hnw : ∀ {A : World} {row : Option Nat}, (∀ r, row = some r → W1.heap.size ≤ r ∧ ∃ o : Obj, A.heap[r]? = some o ∧ it o = true) → (∀ r, row = some r → w.heap.size ≤ r ∧ ∃ o : Obj, A.heap[r]? = some o ∧ (it o = true ∨ o.isCells = false)) :=
      fun hr r e => by obtain ⟨hB, o, ho, hw⟩ := hr r e; exact ⟨by rw [← hW1] at hB; simp at hB; omega, o, ho, .inl hw⟩
    have hkp : ∀ {A C : World} {row : Option Nat} {k : Nat} {o : Obj}, A.grownBy C row → (∀ r, row = some r → W1.heap.size ≤ r ∧ ∃ o : Obj, A.heap[r]? = some o ∧ it o = true) → A.heap[k]? = some o → it o = false → C.heap[k]? = some o :=
      fun {A C row k o} hg hr hk ho => (hg.block k (Array.getElem?_eq_some_iff.1 hk).1 (fun e => by obtain ⟨_, o2, h2, h3⟩ := hr k e.symm; rw [hk] at h2; cases h2; rw [ho] at h3; cases h3)).trans hk
    refine (hseq (w.heap.size + 1)
      (fun pre W => I pre W ∧ W.heap[w.heap.size + 1]? = some (.loop (rec .ready none)) ∧ W.heap[w.heap.size]? = some (.deferred (some [])))
      (fun pre W => ∃ c, Ix c pre W ∧ W.heap[w.heap.size + 1]? = some (.loop (rec .done (some c))) ∧ W.heap[w.heap.size]? = some (.deferred (some [])))
      (fun ch pre W => Ip ch pre W ∧ W.heap[w.heap.size]? = some (.deferred (some [])))
      W1 hb1
      (fun s A B row hs hg' hr => ⟨hI s A B row hs.1 hg' (hnw hr), hkp hg' hr hs.2.1 (hitl _), hkp hg' hr hs.2.2 (hitd _)⟩)
      (fun s A B row hs hg' hr => by
        obtain ⟨c, hc, hl, hk⟩ := hs
        exact ⟨c, hIx c s A B row hc hg' (hnw hr), hkp hg' hr hl (hitl _), hkp hg' hr hk (hitd _)⟩)
      ?_ ⟨hI1, hL1, hK1⟩).mono ?_
    · rintro pre x W ⟨hi, hl, hk⟩ hlen hspx
      have hlt : w.heap.size + 1 < W.heap.size := (Array.getElem?_eq_some_iff.1 hl).1
      have hy := run_yield (P := P) (args := encs x) hl (by rw [hrec]; exact hps x)
      rw [hrec] at hy
      refine ⟨fn, _, assign, body, hy, roundInP hfn hf0 (hassign _ pre x W _ hi ?_)⟩
      clear hy
      intro a' Wa hkfa hkpa hia hax
      replace hl := hkfa.same _ _ (by omega) hl rfl
      replace hk := hkfa.same _ _ (Nat.le_refl _) hk rfl
      replace hlt : w.heap.size + 1 < Wa.heap.size := (Array.getElem?_eq_some_iff.1 hl).1
      replace hi := hia
      clear hia
      revert hkpa hkfa
      generalize W = Wb
      intro hkfa hkpa
      obtain ⟨W, rfl⟩ : ∃ W, W = Wa := ⟨_, rfl⟩
      refine ⟨_, run_beginRound hl (by rw [hrec]), ?_⟩
      have hl2 : (W.putObj (w.heap.size + 1) (.loop { rec .ready none with state := .busy })).heap[w.heap.size + 1]? = some (.loop { rec .ready none with state := .busy }) := World.putObj_heap_same hlt
      have hk2 : (W.putObj (w.heap.size + 1) (.loop { rec .ready none with state := .busy })).heap[w.heap.size]? = some (.deferred (some [])) := (World.putObj_heap_other (by omega)).trans hk
      have hw2 : Kp W (W.putObj (w.heap.size + 1) (.loop { rec .ready none with state := .busy })) := hKb _ _ _ _ (by omega) hl rfl rfl
      refine wpIn_mono (hbody _ pre x a' _ (hI.putObj _ hi (by omega) hl rfl) ((hAx x a').putObj (s := ()) _ hax (by omega) hl rfl) hlen hspx) ?_
      have fin : ∀ (jump : Option Code) (W3 : World), KeepsFrom w.heap.size (W.putObj (w.heap.size + 1) (.loop { rec .ready none with state := .busy })) W3 →
          (Instr.endRound (w.heap.size + 1) jump).run P W3 = .ok (.bool jump.isNone) (W3.putObj (w.heap.size + 1) (.loop (rec (if jump.isNone then .ready else .done) jump))) ∧
          W3.heap[w.heap.size + 1]? = some (.loop { rec .ready none with state := .busy }) ∧
          (W3.putObj (w.heap.size + 1) (.loop (rec (if jump.isNone then .ready else .done) jump))).heap[w.heap.size + 1]? = some (.loop (rec (if jump.isNone then .ready else .done) jump)) ∧
          (W3.putObj (w.heap.size + 1) (.loop (rec (if jump.isNone then .ready else .done) jump))).heap[w.heap.size]? = some (.deferred (some [])) := fun jump W3 hk3 => by
        have hl3 := hk3.same _ _ (by omega) hl2 rfl
        have := run_endRound (P := P) jump hl3
        rw [hrec] at this ⊢
        exact ⟨this, by rw [hrec] at hl3; exact hl3, World.putObj_heap_same (Array.getElem?_eq_some_iff.1 hl3).1, (World.putObj_heap_other (by omega)).trans (hk3.same _ _ (Nat.le_refl _) hk2 rfl)⟩
      rintro e a3 W3 hp
      cases e with
      | normal =>
        obtain ⟨hk3, hkp3, hi3⟩ := hp
        obtain ⟨hr, hl3, hl4, hk4⟩ := fin none W3 hk3
        exact ⟨_, _, hr, .inl ⟨rfl, ⟨hI.putObj _ hi3 (by omega) hl3 rfl, hl4, hk4⟩, hKt hkpa (hKt (hKt hw2 hkp3) (hKb _ _ _ _ (by omega) hl3 rfl rfl))⟩⟩
      | ret =>
        obtain ⟨hk3, hi3⟩ := hp
        obtain ⟨hr, hl3, hl4, hk4⟩ := fin (some .ret) W3 hk3
        exact ⟨_, _, hr, .inr (.inl ⟨rfl, .ret, (hIx _).putObj _ hi3 (by omega) hl3 rfl, hl4, hk4⟩)⟩
      | exit id =>
        obtain ⟨hk3, hi3⟩ := hp
        obtain ⟨hr, hl3, hl4, hk4⟩ := fin (some (.exit id)) W3 hk3
        exact ⟨_, _, hr, .inr (.inl ⟨rfl, .exit id, (hIx _).putObj _ hi3 (by omega) hl3 rfl, hl4, hk4⟩)⟩
      | goto t =>
        obtain ⟨hk3, hi3⟩ := hp
        obtain ⟨hr, hl3, hl4, hk4⟩ := fin (some (.goto t)) W3 hk3
        exact ⟨_, _, hr, .inr (.inl ⟨rfl, .goto t, (hIx _).putObj _ hi3 (by omega) hl3 rfl, hl4, hk4⟩)⟩
      | panic ch =>
        obtain ⟨hd, hk3, hi3⟩ := hp
        exact ⟨hd, .inr (.inr ⟨ch, rfl, hi3, hk3.same _ _ (Nat.le_refl _) hk2 rfl⟩)⟩
      | outgrown => exact hp.elim
    · rintro e W2 (⟨⟨v, rfl⟩, (⟨xs, hS, hi, hl, hk⟩ | ⟨pre, hSp, c, hi, hl, hk⟩)⟩ | ⟨ch, pre, rfl, hSp, hi, hk⟩)
      · exact ⟨none, _, by have := run_endLoop (P := P) hl (by rw [hrec]; simp); rw [hrec] at this; exact this, hdone _ xs _ (Nat.le_refl _) hS (hI.putObj _ hi (by omega) hl rfl) ((World.putObj_heap_other (by omega)).trans hk)⟩
      · exact ⟨some c, _, by have := run_endLoop (P := P) hl (by rw [hrec]; simp); rw [hrec] at this; exact this, hstop _ c pre _ (Nat.le_refl _) hSp ((hIx c).putObj _ hi (by omega) hl rfl) ((World.putObj_heap_other (by omega)).trans hk)⟩
      · exact hpanic _ ch pre _ (Nat.le_refl _) hSp hi hk
end Go.Proofs.YtcnedecmmplmoaaGreatDoor

/- A range over a function whose iterator writes a box of its own that lay there before (bn): the law of XRgP with that word. -/
namespace Go.Proofs.YtcnedecmmplmoaaGreatDoor
open Go Go.RowKit
variable {F : Fence} {n : Nat} {P : Program}
/-- What the caller's invariant abides: new blocks, and the turn of the iterator's own box. -/
def AbidesB {β : Type} (bn : Nat) (J : β → World → Prop) : Prop :=
  ∀ s A C row, J s A → A.grownBy C row → (∀ r, row = some r → r = bn) → J s C
def OwnB {β : Type} (bn B : Nat) (I : β → World → Prop) : Prop :=
  ∀ s A C row, I s A → A.grownBy C row → (∀ r, row = some r → r = bn ∨ r = B + 1) → I s C
theorem OwnB.putObj {β : Type} {bn B : Nat} {I : β → World → Prop} (h : OwnB bn B I) {s : β} {W : World} {l : Nat} {o : Obj} (o' : Obj) (hs : I s W) (hB : l = B + 1) (hl : W.heap[l]? = some o) (ho : o.isCells = false) : I s (W.putObj l o') :=
  h s W _ (some l) hs (grownBy_putObj' W l o') (fun r e => by cases e; exact .inr hB)
theorem OwnB.alloc {β : Type} {bn B : Nat} {I : β → World → Prop} (h : OwnB bn B I) {s : β} {W : World} (o : Obj) (hs : I s W) : I s (W.alloc o) :=
  h s W _ none hs (World.grownBy_alloc W o none) (fun r e => by cases e)
theorem OwnB.and {β : Type} {bn B : Nat} {I J : β → World → Prop} (h : OwnB bn B I) (k : OwnB bn B J) : OwnB bn B (fun s W => I s W ∧ J s W) := fun s A C row hs hg hr => ⟨h s A C row hs.1 hg hr, k s A C row hs.2 hg hr⟩
theorem OwnB.pure {β : Type} {bn B : Nat} (p : β → Prop) : OwnB bn B (fun s (_ : World) => p s) := fun _ _ _ _ hs _ _ => hs
/-- The contract of an iterator that writes a box of its own. -/
def SeqStopsB {α : Type} (bn : Nat) (F : Fence) (n : Nat) (P : Program) (g : Nat) (lb : Array Value) (encs : α → Array Value) (Kp : World → World → Prop) (S Sp : List α → Prop) (N : Nat) (w : World) : Prop :=
  ∀ (l : Nat) (J Jx : List α → World → Prop) (W : World), Below w.heap.size w W → AbidesB bn J → AbidesB bn Jx →
    (∀ pre x W1, J pre W1 → pre.length < N → Sp (pre ++ [x]) → YieldAt F (n - 1) P l (encs x) W1 fun e W' =>
      (e = .returned (.bool true) ∧ J (pre ++ [x]) W' ∧ Kp W1 W') ∨ (e = .returned (.bool false) ∧ Jx (pre ++ [x]) W')) →
    J [] W →
    CallsIn F n P g (#[.func (.yield l) #[] #[]] ++ lb) W fun e W' => (∃ v, e = .returned v) ∧ ((∃ xs, S xs ∧ J xs W') ∨ (∃ pre, Sp pre ∧ Jx pre W'))
/-- **The statement 'for x := range seq', the iterator with a box of its own.** -/
theorem wpF_rangeFunc_ownB {α : Type} {bn : Nat} {g : Operand} {ps : Array Tmp} {assign body : Code} {Q : Exit → Act → World → Prop} {a : Act} {w : World} (hbn : bn < w.heap.size)
    (hro : F.round = none) (h1 : 1 ≤ n) {f0 : FuncId} (hf0 : ∃ fn, P.funcs[f0]? = some fn) {gf : Nat} {lb : Array Value} (hg : a.eval g = .func (.func gf) #[] lb) (hFg : F.fn gf) (eg : ∀ args w, (callFunc gf args).run P w = .ok (.enter gf args) w)
    {encs : α → Array Value} {Kp : World → World → Prop} {S Sp : List α → Prop} {N : Nat} {w0 : World} (hseq : SeqStopsB bn F (n - 1) P gf lb encs Kp S Sp N w0)
    (hKt : ∀ {A B C : World}, Kp A B → Kp B C → Kp A C) (hKb : ∀ (W : World) (l : Nat) (o o' : Obj), w.heap.size ≤ l → W.heap[l]? = some o → o.isCells = false → o.isWalk = false → Kp W (W.putObj l o')) (hb0 : Below w0.heap.size w0 w) (hps : ∀ x, (encs x).size = ps.size)
    (I : List α → World → Prop) (Ix : Code → List α → World → Prop) (hI : OwnB bn w.heap.size I) (hIx : ∀ c, OwnB bn w.heap.size (Ix c)) (h0 : I [] w) (Ax : α → Act → World → Prop) (hAx : ∀ x a', OwnB bn w.heap.size (fun (_ : Unit) W => Ax x a' W))
    (hassign : ∀ (l : Nat) (pre : List α) (x : α) (W : World) (K : Act → World → Prop), w.heap.size + 1 < W.heap.size → I pre W → (∀ a' W', KeepsFrom w.heap.size W W' → Kp W W' → I pre W' → Ax x a' W' → K a' W') →
      assign.wpIn (F.inRound l) (n - 1 - 1) P (Exit.then K (fun _ _ _ => False)) { tmps := (ps.zip (encs x)).foldl (fun t (p, v) => t.setIfInBounds p v) a.tmps, defers := [] } W)
    (hbody : ∀ (l : Nat) (pre : List α) (x : α) (a' : Act) (W : World), w.heap.size + 1 < W.heap.size → I pre W → Ax x a' W → pre.length < N → Sp (pre ++ [x]) → body.wpIn (F.inRound l) (n - 1 - 1) P (ownPostG w.heap.size Kp I Ix (pre ++ [x]) W) a' W)
    (hdone : ∀ (D : Nat) (xs : List α) (W : World), D = w.heap.size → S xs → I xs W → W.heap[D]? = some (.deferred (some [])) → Q .normal { a with defers := { target := .collected D, args := #[] } :: a.defers } W)
    (hstop : ∀ (D : Nat) (c : Code) (pre : List α) (W : World), D = w.heap.size → Sp pre → Ix c pre W → W.heap[D]? = some (.deferred (some [])) → c.wpIn F n P Q { a with defers := { target := .collected D, args := #[] } :: a.defers } W) :
    wpF f0 F n P (Code.rangeFunc g ps assign body) Q a w := by
  refine wpF_rangeFunc ?_
  intro hfn
  obtain ⟨fn, hfn0⟩ : ∃ fn, fn = f0 := ⟨_, rfl⟩
  rw [← hfn0] at hfn hf0 ⊢
  rw [hro]
  obtain ⟨rec, hrec⟩ : ∃ rec : LoopState → Option Code → Loop, rec = fun st pe => { state := st, pending := pe, fn, tmps := a.tmps, params := ps, assign, body, defers := w.heap.size } := ⟨_, rfl⟩
  obtain ⟨W1, hW1⟩ : ∃ W1, (w.alloc (.deferred (some []))).alloc (.loop (rec .ready none)) = W1 := ⟨_, rfl⟩
  have hL1 : W1.heap[w.heap.size + 1]? = some (.loop (rec .ready none)) := by
    rw [← hW1]; have := World.alloc_heap_new (w.alloc (.deferred (some []))) (.loop (rec .ready none)); rwa [World.size_alloc] at this
  have hK1 : W1.heap[w.heap.size]? = some (.deferred (some [])) := by
    rw [← hW1]; exact (Below.heap_alloc _ _ _ (by simp)).trans (World.alloc_heap_new w _)
  have hI1 : I [] W1 := by rw [← hW1]; exact hI.alloc _ (hI.alloc _ h0)
  have hb1 : Below w0.heap.size w0 W1 := by
    rw [← hW1]; exact hb0.trans ((((Below.refl _ w).alloc (Nat.le_refl _) _).alloc (by simp) _).mono hb0.size)
  refine ⟨w.heap.size + 1, [{ target := .collected w.heap.size, args := #[] }], W1, { target := .fn (.func gf) lb, args := #[.func (.yield (w.heap.size + 1)) #[] #[]] }, W1, gf,
    #[.func (.yield (w.heap.size + 1)) #[] #[]] ++ lb, W1, ?_, ?_, ?_, ?_, fun _ => h1, ?_⟩
  · rw [← hW1, hrec]; exact run_enterLoop_outer _ _ _ _ _
  · simp only [resolve, hg]
    simp [go_sem]
  · intro f' hf'; simp [Target.leads] at hf'; subst hf'; exact hFg
  · simp [invoke, go_sem, eg]
  · have hnw : ∀ {row : Option Nat}, (∀ r, row = some r → r = bn) → (∀ r, row = some r → r = bn ∨ r = w.heap.size + 1) := fun hr r e => .inl (hr r e)
    have hkp : ∀ {A C : World} {row : Option Nat} {k : Nat} {o : Obj}, A.grownBy C row → (∀ r, row = some r → r = bn) → k ≠ bn → A.heap[k]? = some o → C.heap[k]? = some o :=
      fun {A C row k o} hg hr hne hk => (hg.block k (Array.getElem?_eq_some_iff.1 hk).1 (fun e => hne (hr k e.symm))).trans hk
    refine (hseq (w.heap.size + 1)
      (fun pre W => I pre W ∧ W.heap[w.heap.size + 1]? = some (.loop (rec .ready none)) ∧ W.heap[w.heap.size]? = some (.deferred (some [])))
      (fun pre W => ∃ c, Ix c pre W ∧ W.heap[w.heap.size + 1]? = some (.loop (rec .done (some c))) ∧ W.heap[w.heap.size]? = some (.deferred (some [])))
      W1 hb1
      (fun s A B row hs hg' hr => ⟨hI s A B row hs.1 hg' (hnw hr), hkp hg' hr (by omega) hs.2.1, hkp hg' hr (by omega) hs.2.2⟩)
      (fun s A B row hs hg' hr => by
        obtain ⟨c, hc, hl, hk⟩ := hs
        exact ⟨c, hIx c s A B row hc hg' (hnw hr), hkp hg' hr (by omega) hl, hkp hg' hr (by omega) hk⟩)
      ?_ ⟨hI1, hL1, hK1⟩).mono ?_
    · rintro pre x W ⟨hi, hl, hk⟩ hlen hspx
      have hlt : w.heap.size + 1 < W.heap.size := (Array.getElem?_eq_some_iff.1 hl).1
      have hy := run_yield (P := P) (args := encs x) hl (by rw [hrec]; exact hps x)
      rw [hrec] at hy
      refine ⟨fn, _, assign, body, hy, roundInP hfn hf0 (hassign _ pre x W _ hlt hi ?_)⟩
      clear hy
      intro a' Wa hkfa hkpa hia hax
      replace hl := hkfa.same _ _ (by omega) hl rfl
      replace hk := hkfa.same _ _ (Nat.le_refl _) hk rfl
      replace hlt : w.heap.size + 1 < Wa.heap.size := (Array.getElem?_eq_some_iff.1 hl).1
      replace hi := hia
      clear hia
      revert hkpa hkfa
      generalize W = Wb
      intro hkfa hkpa
      obtain ⟨W, rfl⟩ : ∃ W, W = Wa := ⟨_, rfl⟩
      refine ⟨_, run_beginRound hl (by rw [hrec]), ?_⟩
      have hl2 : (W.putObj (w.heap.size + 1) (.loop { rec .ready none with state := .busy })).heap[w.heap.size + 1]? = some (.loop { rec .ready none with state := .busy }) := World.putObj_heap_same hlt
      have hk2 : (W.putObj (w.heap.size + 1) (.loop { rec .ready none with state := .busy })).heap[w.heap.size]? = some (.deferred (some [])) := (World.putObj_heap_other (by omega)).trans hk
      have hw2 : Kp W (W.putObj (w.heap.size + 1) (.loop { rec .ready none with state := .busy })) := hKb _ _ _ _ (by omega) hl rfl rfl
      refine wpIn_mono (hbody _ pre x a' _ (Array.getElem?_eq_some_iff.1 hl2).1 (hI.putObj _ hi (by omega) hl rfl) ((hAx x a').putObj (s := ()) _ hax (by omega) hl rfl) hlen hspx) ?_
      have fin : ∀ (jump : Option Code) (W3 : World), KeepsFrom w.heap.size (W.putObj (w.heap.size + 1) (.loop { rec .ready none with state := .busy })) W3 →
          (Instr.endRound (w.heap.size + 1) jump).run P W3 = .ok (.bool jump.isNone) (W3.putObj (w.heap.size + 1) (.loop (rec (if jump.isNone then .ready else .done) jump))) ∧
          W3.heap[w.heap.size + 1]? = some (.loop { rec .ready none with state := .busy }) ∧
          (W3.putObj (w.heap.size + 1) (.loop (rec (if jump.isNone then .ready else .done) jump))).heap[w.heap.size + 1]? = some (.loop (rec (if jump.isNone then .ready else .done) jump)) ∧
          (W3.putObj (w.heap.size + 1) (.loop (rec (if jump.isNone then .ready else .done) jump))).heap[w.heap.size]? = some (.deferred (some [])) := fun jump W3 hk3 => by
        have hl3 := hk3.same _ _ (by omega) hl2 rfl
        have := run_endRound (P := P) jump hl3
        rw [hrec] at this ⊢
        exact ⟨this, by rw [hrec] at hl3; exact hl3, World.putObj_heap_same (Array.getElem?_eq_some_iff.1 hl3).1, (World.putObj_heap_other (by omega)).trans (hk3.same _ _ (Nat.le_refl _) hk2 rfl)⟩
      rintro e a3 W3 hp
      cases e with
      | normal =>
        obtain ⟨hk3, hkp3, hi3⟩ := hp
        obtain ⟨hr, hl3, hl4, hk4⟩ := fin none W3 hk3
        exact ⟨_, _, hr, .inl ⟨rfl, ⟨hI.putObj _ hi3 (by omega) hl3 rfl, hl4, hk4⟩, hKt hkpa (hKt (hKt hw2 hkp3) (hKb _ _ _ _ (by omega) hl3 rfl rfl))⟩⟩
      | ret =>
        obtain ⟨hk3, hi3⟩ := hp
        obtain ⟨hr, hl3, hl4, hk4⟩ := fin (some .ret) W3 hk3
        exact ⟨_, _, hr, .inr ⟨rfl, .ret, (hIx _).putObj _ hi3 (by omega) hl3 rfl, hl4, hk4⟩⟩
      | exit id =>
        obtain ⟨hk3, hi3⟩ := hp
        obtain ⟨hr, hl3, hl4, hk4⟩ := fin (some (.exit id)) W3 hk3
        exact ⟨_, _, hr, .inr ⟨rfl, .exit id, (hIx _).putObj _ hi3 (by omega) hl3 rfl, hl4, hk4⟩⟩
      | goto t =>
        obtain ⟨hk3, hi3⟩ := hp
        obtain ⟨hr, hl3, hl4, hk4⟩ := fin (some (.goto t)) W3 hk3
        exact ⟨_, _, hr, .inr ⟨rfl, .goto t, (hIx _).putObj _ hi3 (by omega) hl3 rfl, hl4, hk4⟩⟩
      | panic ch => exact hp.elim
      | outgrown => exact hp.elim
    · rintro e W2 ⟨⟨v, rfl⟩, (⟨xs, hS, hi, hl, hk⟩ | ⟨pre, hSp, c, hi, hl, hk⟩)⟩
      · exact ⟨none, _, by have := run_endLoop (P := P) hl (by rw [hrec]; simp); rw [hrec] at this; exact this, hdone _ xs _ rfl hS (hI.putObj _ hi (by omega) hl rfl) ((World.putObj_heap_other (by omega)).trans hk)⟩
      · exact ⟨some c, _, by have := run_endLoop (P := P) hl (by rw [hrec]; simp); rw [hrec] at this; exact this, hstop _ c pre _ rfl hSp ((hIx c).putObj _ hi (by omega) hl rfl) ((World.putObj_heap_other (by omega)).trans hk)⟩
end Go.Proofs.YtcnedecmmplmoaaGreatDoor
