/- Rows of texts: small laws. -/
import Derived.Test.YtcnedecmmplmoaaGreatDoorCm07
import Derived.Test.YtcnedecmmplmoaaGreatDoorCm01
import Derived.Lib.Strings
import Derived.Test.YtcnedecmmplmoaaGreatDoorShelf
import Derived.Test.YtcnedecmmplmoaaGreatDoorCm03
set_option linter.unusedVariables false
set_option linter.unusedSimpArgs false
namespace Go.Proofs.YtcnedecmmplmoaaGreatDoor
open Go.RowKit Go.BigFrame

def strs (ss : List ByteArray) : List Value := ss.map Value.string
theorem strs_len (ss : List ByteArray) : (strs ss).length = ss.length := by simp [strs]
theorem strs_get (ss : List ByteArray) (k : Nat) (h : k < ss.length) : (strs ss)[k]? = some (.string (ss.getD k ⟨#[]⟩)) := by simp [strs, h]
theorem list_ne {α : Type} (xs ys : List α) (d : α) (k : Nat) (h : xs.getD k d ≠ ys.getD k d) : xs ≠ ys := fun e => h (by rw [e])
theorem list_eq {α : Type} (xs ys : List α) (d : α) (hl : xs.length = ys.length) (h : ∀ j, j < xs.length → xs.getD j d = ys.getD j d) : xs = ys := by
  apply List.ext_getElem hl
  intro j h1 h2
  have := h j h1
  simpa [List.getD, h1, h2] using this
theorem str_ne_iff (x y : ByteArray) : (x.toList == y.toList) = decide (x = y) := by
  rw [Lib.toList_data, Lib.toList_data, Bool.eq_iff_iff]
  simp only [beq_iff_eq, decide_eq_true_eq]
  exact ⟨str_ext, fun e => by rw [e]⟩
end Go.Proofs.YtcnedecmmplmoaaGreatDoor

/- Contracts of Texts, of version and of its reference. -/
namespace Go.Proofs.YtcnedecmmplmoaaGreatDoor
open Go.RowKit Go.BigFrame
open Ver (prs cmpV BL)

def toI (ns : List Nat) : List Int := List.map (fun n : Nat => (n : Int)) ns
theorem vI_ints (ns : List Nat) : ns.map vI = ints (toI ns) := by simp [ints, toI, vI]
def verOf (s : ByteArray) : List Int × BL := match prs s.data.toList with
  | none => ([], [])
  | some v => (toI v.1, v.2)
def okS (s : ByteArray) : Bool := (prs s.data.toList).isSome
/-- What Parse's result reads as. -/
def ParsedYes (s : ByteArray) (w : World) (e : Ending) (w' : World) : Prop :=
  ∃ v t, e = .returned (.tuple #[.agg #[v, .string t], .int .i64 0]) ∧ Reads w' w'.heap.size v (ints (verOf s).1) ∧ t.data.toList = (verOf s).2 ∧ t.size ≤ 16 ∧ Below w.heap.size w w' ∧ (∃ A n cap, v = .slice A n cap ∧ ∀ ad, A = some ad → w.heap.size ≤ ad.block ∧ ad.block < w'.heap.size)
theorem parsed_yes {s : ByteArray} {w : World} {e : Ending} {w' : World} (h : Prs s w e w') (ho : okS s = true) : ParsedYes s w e w' := by
  unfold Prs at h
  unfold okS at ho
  unfold ParsedYes verOf
  cases hp : prs s.data.toList with
  | none => rw [hp] at ho; cases ho
  | some v =>
    rw [hp] at h
    obtain ⟨ns, t⟩ := v
    obtain ⟨v, he, hown, hb⟩ := h
    have hok := (Ver.prs_some _ _ _ hp).2
    have hR := Reads.own hown
    rw [vI_ints] at hR
    refine ⟨v, ⟨t.toArray⟩, he, hR, by simp, ?_, hb, ?_⟩
    · simp only [Ver.okV, Bool.and_eq_true, Ver.okTag, decide_eq_true_eq] at hok
      have := hok.2.1
      simpa [ByteArray.size] using this
    · rcases hown.2 with ⟨e1, e2⟩ | ⟨g, cap, cur, e1, hg, hgg, _⟩
      · exact ⟨none, 0, 0, e1, fun ad h => by cases h⟩
      · exact ⟨_, _, cap, e1, fun ad h => by cases h; exact ⟨hg, block_lt hgg⟩⟩
theorem parsed_no {s : ByteArray} {w : World} {e : Ending} {w' : World} (h : Prs s w e w') (ho : okS s = false) : ParseNo w e w' := by
  unfold Prs at h
  unfold okS at ho
  cases hp : prs s.data.toList with
  | none => rw [hp] at h; exact h
  | some v => rw [hp] at ho; cases ho
theorem parse_yes (s : ByteArray) (w : World) (hs : s.size ≤ 1000000) (h : okS s = true) : Calls Tryz.prog 58 #[.string s] w (ParsedYes s w) :=
  (parse_any s w (by unfold maxLen; omega)).mono fun _ _ hp => parsed_yes hp h
theorem parse_no (s : ByteArray) (w : World) (hs : s.size ≤ 1000000) (h : okS s = false) : Calls Tryz.prog 58 #[.string s] w (ParseNo w) :=
  (parse_any s w (by unfold maxLen; omega)).mono fun _ _ hp => parsed_no hp h
theorem refParse_yes (s : ByteArray) (w : World) (hs : s.size ≤ 1000000) (h : okS s = true) : Calls Tryz.prog 66 #[.string s] w (ParsedYes s w) :=
  (refParse_any s w hs).mono fun _ _ hp => parsed_yes hp h
theorem refParse_no (s : ByteArray) (w : World) (hs : s.size ≤ 1000000) (h : okS s = false) : Calls Tryz.prog 66 #[.string s] w (ParseNo w) :=
  (refParse_any s w hs).mono fun _ _ hp => parsed_no hp h
def cmpS (s t : ByteArray) : Int := if okS s = true ∧ okS t = true then cmpV (verOf s) (verOf t) else 0
def okST (s t : ByteArray) : Bool := okS s && okS t
/-- One new block. -/
theorem row_at (w0 w : World) (o : Obj) (hb : Below w0.heap.size w0 w) : ∃ w1, w1 = w.alloc o ∧ w1.heap[w.heap.size]? = some o ∧ Below w.heap.size w w1 ∧ w1.heap.size = w.heap.size + 1 ∧ Below w0.heap.size w0 w1 :=
  ⟨_, rfl, heap_alloc_new w o, (Below.refl _ _).alloc (Nat.le_refl _) o, by simp, hb.alloc hb.size o⟩
/-- What lay below block B in a world lies there still. -/
def KeepW (W1 : World) (B : Nat) (w' : World) : Prop := Below B W1 w' ∧ B ≤ w'.heap.size
theorem KeepW.start {W : World} {B : Nat} (h : B ≤ W.heap.size) : KeepW W B W := ⟨Below.refl _ _, h⟩
theorem KeepW.drew {W1 w' : World} {B : Nat} (h : KeepW W1 B w') : KeepW W1 B w'.drew := ⟨h.1.drew, h.2⟩
theorem KeepW.step {W1 w' w2 : World} {B : Nat} (h : KeepW W1 B w') (h2 : Below w'.heap.size w' w2) : KeepW W1 B w2 := ⟨below_step h.1 h2 h.2, Nat.le_trans h.2 h2.size⟩
theorem KeepW.calls {P : Program} {f : FuncId} {args : Array Value} {v : Value} {W1 w' : World} {B : Nat} (h : KeepW W1 B w') (hc : Calls P f args w' fun e w2 => e = .returned v ∧ Below w'.heap.size w' w2) : Calls P f args w' fun e w2 => e = .returned v ∧ KeepW W1 B w2 :=
  hc.mono fun _ _ ⟨he, hb⟩ => ⟨he, h.step hb⟩
theorem Reads.form {w : World} {B : Nat} {v : Value} {xs : List Int} (h : Reads w B v (ints xs)) : ∃ A cap, v = .slice A xs.length cap := by
  obtain ⟨A, cap, e, _⟩ := h; rw [ints_len] at e; exact ⟨A, cap, e⟩
theorem bool_eqs (b : Bool) : (b == b) = true := by cases b <;> rfl
end Go.Proofs.YtcnedecmmplmoaaGreatDoor

/- Ranges as plain lists: signs, bounds, rows; read, printed, read again. No program here. -/
namespace Go.Proofs.YtcnedecmmplmoaaGreatDoor.Rng
open Go
open Ver (BL parts prs digB tagB brk)

def sgnL : Nat → BL
  | 0 => [42] | 1 => [61] | 2 => [33, 61] | 3 => [60] | 4 => [60, 61] | 5 => [62] | 6 => [62, 61] | 7 => [126] | _ => []
def okL (l : BL) : Bool := (prs l).isSome
def mayL (b : Nat × BL) : Bool := if b.1 = 0 then b.2.isEmpty else decide (b.1 ≤ 7) && okL b.2
def firstOf : List Nat → BL → Nat × BL
  | [], _ => (8, [])
  | o :: r, l => if Lib.hasPrefix l (sgnL o) = true then (o, Lib.trimPrefix l (sgnL o)) else firstOf r l
def rawL (l : BL) : Nat × BL := if l = [42] then (0, []) else firstOf [2, 4, 6, 1, 3, 5, 7] l
def refOf : List Nat → BL → Option (Nat × BL)
  | [], _ => none
  | o :: r, l => if Lib.hasPrefix l (sgnL o) = true ∧ okL (l.drop (sgnL o).length) = true then some (o, l.drop (sgnL o).length) else refOf r l
def refL (l : BL) : Option (Nat × BL) := if l = [42] then some (0, []) else refOf [1, 2, 3, 4, 5, 6, 7] l
theorem okL_nil : okL [] = false := by decide
theorem okL_form (l : BL) (h : okL l = true) : ∃ d t, l = d :: t ∧ digB d = true := by
  unfold okL at h
  obtain ⟨v, hv⟩ := Option.isSome_iff_exists.1 h
  obtain ⟨ns, t⟩ := v
  obtain ⟨hp, ho⟩ := Ver.prs_some _ _ _ hv
  simp only [Ver.okV, Bool.and_eq_true, decide_eq_true_eq] at ho
  cases ns with
  | nil => simp at ho
  | cons n ns =>
    have hd := Ver.dec_all n
    have hl := (Ver.dec_len n (by have := List.all_eq_true.1 ho.1.2 n (by simp); simpa using this)).1
    have hh : ∃ u, l = Lib.decDigits n ++ u := by
      rw [← hp]
      unfold Ver.prt
      cases ns with
      | nil => exact ⟨_, by rw [List.map_cons, List.map_nil, Ver.inter_one]⟩
      | cons m ms => exact ⟨_, by rw [List.map_cons, List.map_cons, Ver.inter_cons2, List.append_assoc]⟩
    obtain ⟨u, rfl⟩ := hh
    cases hq : Lib.decDigits n with
    | nil => rw [hq] at hl; simp at hl
    | cons d t => rw [hq] at hd; exact ⟨d, t ++ u, rfl, by simp at hd; exact hd.1⟩
theorem okL_head (c : UInt8) (t : BL) (h : digB c = false) : okL (c :: t) = false := by
  cases ho : okL (c :: t)
  · rfl
  · obtain ⟨d, u, e, hd⟩ := okL_form _ ho
    injection e with e1 e2
    subst e1; rw [h] at hd; cases hd
theorem pre_one (c d : UInt8) (t : BL) : Lib.hasPrefix (c :: t) [d] = (d == c) := by simp [Lib.hasPrefix, List.isPrefixOf]
theorem pre_two (c d e : UInt8) (t : BL) : Lib.hasPrefix (c :: t) [d, e] = (d == c && Lib.hasPrefix t [e]) := by simp [Lib.hasPrefix, List.isPrefixOf]
theorem pre_nil (d : UInt8) (l : BL) : Lib.hasPrefix [] (d :: l) = false := rfl
theorem ref_raw (l : BL) : refL l = if mayL (rawL l) = true then some (rawL l) else none := by
  unfold refL rawL
  by_cases h : l = [42]
  · rw [if_pos h, if_pos h]; rfl
  · rw [if_neg h, if_neg h]
    cases l with
    | nil => rfl
    | cons c t =>
      have d61 : digB 61 = false := by decide
      have key : ∀ o, okL (61 :: o) = false := fun o => okL_head 61 o d61
      by_cases h33 : c = 33
      · subst h33
        cases t with
        | nil => rfl
        | cons d u =>
          by_cases hd : d = 61
          · subst hd
            simp [refOf, firstOf, sgnL, pre_one, pre_two, Lib.trimPrefix, mayL]
          · simp [refOf, firstOf, sgnL, pre_one, pre_two, Lib.trimPrefix, mayL, Ne.symm hd]
      · by_cases h60 : c = 60
        · subst h60
          cases t with
          | nil => decide
          | cons d u =>
            by_cases hd : d = 61
            · subst hd
              simp [refOf, firstOf, sgnL, pre_one, pre_two, Lib.trimPrefix, mayL, key]
            · simp [refOf, firstOf, sgnL, pre_one, pre_two, Lib.trimPrefix, mayL, Ne.symm hd]
        · by_cases h62 : c = 62
          · subst h62
            cases t with
            | nil => decide
            | cons d u =>
              by_cases hd : d = 61
              · subst hd
                simp [refOf, firstOf, sgnL, pre_one, pre_two, Lib.trimPrefix, mayL, key]
              · simp [refOf, firstOf, sgnL, pre_one, pre_two, Lib.trimPrefix, mayL, Ne.symm hd]
          · by_cases h61 : c = 61
            · subst h61
              simp [refOf, firstOf, sgnL, pre_one, pre_two, Lib.trimPrefix, mayL]
            · by_cases h126 : c = 126
              · subst h126
                simp [refOf, firstOf, sgnL, pre_one, pre_two, Lib.trimPrefix, mayL]
              · simp [refOf, firstOf, sgnL, pre_one, pre_two, Lib.trimPrefix, mayL, Ne.symm h33, Ne.symm h60, Ne.symm h61, Ne.symm h62, Ne.symm h126]
def prtB (b : Nat × BL) : BL := sgnL b.1 ++ b.2
theorem first_prt (l : BL) : ∀ ops, (firstOf ops l).1 ≤ 7 → prtB (firstOf ops l) = l
  | [], h => absurd h (by simp [firstOf])
  | o :: r, h => by
    unfold firstOf at h ⊢
    by_cases hp : Lib.hasPrefix l (sgnL o) = true
    · rw [if_pos hp]
      unfold prtB Lib.trimPrefix
      rw [if_pos hp]
      obtain ⟨t, rfl⟩ := List.isPrefixOf_iff_prefix.1 hp
      simp
    · rw [if_neg hp] at h ⊢
      exact first_prt l r h
theorem raw_prt (l : BL) (h : mayL (rawL l) = true) : prtB (rawL l) = l := by
  unfold rawL at h ⊢
  by_cases he : l = [42]
  · rw [if_pos he, he]; rfl
  · rw [if_neg he] at h ⊢
    refine first_prt l _ ?_
    unfold mayL at h
    split at h
    · omega
    · simp at h; exact h.1
theorem prt_raw (b : Nat × BL) (h : mayL b = true) : rawL (prtB b) = b := by
  obtain ⟨o, v⟩ := b
  unfold mayL at h
  dsimp only at h
  by_cases h0 : o = 0
  · subst h0
    rw [if_pos rfl] at h
    obtain rfl : v = [] := by simpa using h
    rfl
  · rw [if_neg h0] at h
    simp only [Bool.and_eq_true, decide_eq_true_eq] at h
    obtain ⟨d, t, rfl, hd⟩ := okL_form v h.2
    have e : ∀ c : UInt8, digB c = false → (c == d) = false := fun c hc => by
      rw [beq_eq_false_iff_ne]; intro hh; subst hh; rw [hc] at hd; cases hd
    have e33 := e 33 (by decide)
    have e60 := e 60 (by decide)
    have e61 := e 61 (by decide)
    have e62 := e 62 (by decide)
    have e126 := e 126 (by decide)
    have ho : o = 1 ∨ o = 2 ∨ o = 3 ∨ o = 4 ∨ o = 5 ∨ o = 6 ∨ o = 7 := by omega
    unfold rawL prtB
    rcases ho with rfl | rfl | rfl | rfl | rfl | rfl | rfl <;> rw [if_neg (by simp [sgnL])] <;> simp [firstOf, sgnL, pre_one, pre_two, Lib.trimPrefix, e33, e60, e61, e62, e126]
/-- Which bytes a version has. -/
def verB (c : UInt8) : Bool := digB c || tagB c || c == 45 || c == 46
theorem okL_bytes (l : BL) (h : okL l = true) : l.all verB = true := by
  unfold okL at h
  obtain ⟨v, hv⟩ := Option.isSome_iff_exists.1 h
  obtain ⟨ns, t⟩ := v
  obtain ⟨hp, ho⟩ := Ver.prs_some _ _ _ hv
  simp only [Ver.okV, Ver.okTag, Bool.and_eq_true, decide_eq_true_eq] at ho
  rw [← hp]
  unfold Ver.prt
  rw [List.all_append, Bool.and_eq_true]
  constructor
  · have hi : ∀ ms : List Nat, (List.intercalate [46] (ms.map Lib.decDigits)).all verB = true := fun ms => by
      have hq : ∀ n, (Lib.decDigits n).all verB = true := fun n => List.all_eq_true.2 fun c hc => by
        have := List.all_eq_true.1 (Ver.dec_all n) c hc
        unfold verB; rw [this]; rfl
      induction ms with
      | nil => rfl
      | cons n ms ih =>
        cases ms with
        | nil => rw [List.map_cons, List.map_nil, Ver.inter_one]; exact hq n
        | cons m ms => rw [List.map_cons, List.map_cons, Ver.inter_cons2, List.all_append, hq n, List.all_cons, show verB 46 = true by decide, ← List.map_cons, ih]; rfl
    exact hi ns
  · by_cases ht : t = []
    · rw [if_pos ht]; rfl
    · rw [if_neg ht, List.all_cons, show verB 45 = true by decide, Bool.true_and]
      refine List.all_eq_true.2 fun c hc => ?_
      have := List.all_eq_true.1 ho.2.2 c hc
      unfold verB; rw [this]; simp
theorem sgn_not (o : Nat) : 44 ∉ sgnL o ∧ 124 ∉ sgnL o := by
  unfold sgnL; split <;> decide
theorem prtB_not (b : Nat × BL) (h : mayL b = true) : 44 ∉ prtB b ∧ 124 ∉ prtB b := by
  have hv : b.2.all verB = true := by
    unfold mayL at h
    split at h
    · have : b.2 = [] := by simpa using h
      rw [this]; rfl
    · simp at h; exact okL_bytes _ h.2
  unfold prtB
  simp only [List.mem_append, not_or]
  refine ⟨⟨(sgn_not _).1, fun hm => ?_⟩, (sgn_not _).2, fun hm => ?_⟩
  · have := List.all_eq_true.1 hv _ hm; revert this; decide
  · have := List.all_eq_true.1 hv _ hm; revert this; decide
end Go.Proofs.YtcnedecmmplmoaaGreatDoor.Rng

/- strings.Split at one byte, whatever the library's variables hold. -/
namespace Go.Proofs.YtcnedecmmplmoaaGreatDoor
open Go.RowKit Go.BigFrame
open Ver (parts brk BL)

theorem indexByte_brk' (c : UInt8) : ∀ l : List UInt8, Lib.indexByte l c = if (brk c l).2.2 = true then ((brk c l).1.length : Int) else -1
  | [] => rfl
  | x :: r => by
    have ih := indexByte_brk' c r
    unfold Lib.indexByte brk
    by_cases hx : x = c
    · subst hx; simp
    · rw [if_neg (by simpa using hx), if_neg hx, ih]
      cases hb : (brk c r).2.2
      · simp [hb]
      · simp only [if_pos, hb]
        rw [if_neg (by simp; try omega)]
        simp

theorem splitK_parts (c : UInt8) : ∀ (k : Nat) (l : BL), l.count c = k → Lib.splitK [c] 0 k l = parts c l
  | 0, l, h => by
    rw [Ver.parts_not c l (List.count_eq_zero.1 h)]; rfl
  | k + 1, l, h => by
    have hb : (brk c l).2.2 = true := by
      cases hb : (brk c l).2.2
      · have := (Ver.brk_no c l hb).2.2
        rw [List.count_eq_zero.2 this] at h; omega
      · rfl
    obtain ⟨he, hn⟩ := Ver.brk_yes c l hb
    have hi := Ver.index_one c l
    rw [if_pos hb] at hi
    rw [Ver.parts_brk_yes c l hb]
    generalize (brk c l).1 = a at *
    generalize (brk c l).2.1 = r at *
    subst he
    have hc : r.count c = k := by
      rw [List.count_append, List.count_eq_zero.2 hn, List.count_cons_self] at h; omega
    unfold Lib.splitK
    rw [hi, if_neg (by simp), ← splitK_parts c k r hc]
    simp
def piecesB (c : UInt8) (s : ByteArray) : List ByteArray := Lib.splitB ⟨#[c]⟩ 0 (Lib.countB s ⟨#[c]⟩) s
theorem pieces_data (c : UInt8) (s : ByteArray) : (piecesB c s).map (·.data.toList) = parts c s.data.toList := by
  unfold piecesB
  rw [Lib.splitB_data]
  refine splitK_parts c _ _ ?_
  show _ = Lib.count s.data.toList [c]
  rw [Lib.count_one]
theorem pieces_len (c : UInt8) (s : ByteArray) : (piecesB c s).length = Lib.countB s ⟨#[c]⟩ + 1 := Lib.splitB_all ⟨#[c]⟩ (Nat.le_refl 1) 0 _ s rfl
theorem pieces_le (c : UInt8) (s : ByteArray) : (piecesB c s).length ≤ s.size + 1 := by
  rw [pieces_len]; have := Lib.countB_le ⟨#[c]⟩ (Nat.le_refl 1) s.size s (Nat.le_refl _); omega
theorem indexB_one (c : UInt8) (x : ByteArray) : Lib.indexB x ⟨#[c]⟩ = Lib.indexByte x.data.toList c := (Ver.index_one c _).trans (indexByte_brk' c _).symm
theorem countB_one (c : UInt8) (s : ByteArray) : Lib.countB s ⟨#[c]⟩ = Lib.countByte s.data.toList c := Lib.count_one c _
set_option maxRecDepth 100000 in
set_option maxHeartbeats 800000 in
theorem split_any (c : UInt8) (s : ByteArray) (w : World) (hs : s.size < 4294967281) :
    Calls Tryz.prog 131 #[.string s, .string ⟨#[c]⟩] w fun e w' => e = .returned (.slice (some ⟨w.heap.size, 0, none⟩) (piecesB c s).length (piecesB c s).length) ∧ w' = w.alloc (.cells ((piecesB c s).map Value.string).toArray 9) := by
  have hle := Lib.countB_le ⟨#[c]⟩ (Nat.le_refl 1) s.size s (Nat.le_refl _)
  have hc := Any.strings_genSplit_core Tryz.lays221 (by kernel_rfl) s ⟨#[c]⟩ 0 (-1) (Lib.countB s ⟨#[c]⟩ + 1) w hs (Nat.le_refl 1) (Nat.zero_le _)
    (fun x cs _ => (Tryz.strings_Index_one x c _).mono fun e w' ⟨he, hw⟩ => ⟨by rw [he, indexB_one], hw⟩)
    ((Tryz.strings_Count_one s c w).mono fun e w' ⟨he, hw⟩ => ⟨by rw [he, countB_one], hw⟩)
    (by decide) (by decide) (by rw [if_pos (by decide)]; omega)
  · rw [Nat.add_sub_cancel, show Lib.splitB ⟨#[c]⟩ 0 (Lib.countB s ⟨#[c]⟩) s = piecesB c s from rfl] at hc
    have e2 : Lib.cellsOf (piecesB c s) (Lib.countB s ⟨#[c]⟩ + 1) = ((piecesB c s).map Value.string).toArray := by rw [← pieces_len]; exact Lib.cellsOf_full _
    rw [e2, ← pieces_len] at hc
    have HC := Lib.hid hc
    clear hc e2 hle
    go_enter Tryz.func131, Tryz.ntmps131
    go_wp2_with (go_at_call 143; refine HC.out.mono ?_; rintro e w' ⟨rfl, rfl⟩)
    go_ret
    exact ⟨rfl, rfl⟩
end Go.Proofs.YtcnedecmmplmoaaGreatDoor

/- Rows of rows in memory: bounds, tests. -/
namespace Go.Proofs.YtcnedecmmplmoaaGreatDoor
open Go.RowKit Go.BigFrame
open Ver (cmpV BL)

/-- A slice of n values whose cells are xs, in a block of S. -/
def RdS (w : World) (S : Nat → Prop) (v : Value) (n : Nat) (xs : List Value) : Prop :=
  ∃ A cap, v = .slice A n cap ∧ n ≤ cap ∧ cap ≤ maxLen ∧ (A = none → cap = 0) ∧ (0 < n → ∃ ad, A = some ad ∧ ad.block < w.heap.size ∧ S ad.block ∧ ∀ j u, xs[j]? = some u → w.cell? (ad.add j) = some u)
/-- The blocks of S are as they were. -/
def SameS (w w' : World) (S : Nat → Prop) : Prop := w.heap.size ≤ w'.heap.size ∧ ∀ b, b < w.heap.size → S b → w'.heap[b]? = w.heap[b]?
def AllB : Nat → Prop := fun _ => True
theorem SameS.refl (w : World) (S : Nat → Prop) : SameS w w S := ⟨Nat.le_refl _, fun _ _ _ => rfl⟩
theorem SameS.trans {w w1 w2 : World} {S : Nat → Prop} (h : SameS w w1 S) (h2 : SameS w1 w2 S) : SameS w w2 S :=
  ⟨Nat.le_trans h.1 h2.1, fun b hb hs => (h2.2 b (Nat.lt_of_lt_of_le hb h.1) hs).trans (h.2 b hb hs)⟩
theorem SameS.weak {w w' : World} {S S' : Nat → Prop} (h : SameS w w' S) (hw : ∀ b, b < w.heap.size → S' b → S b) : SameS w w' S' := ⟨h.1, fun b hb hs => h.2 b hb (hw b hb hs)⟩
theorem SameS.below {w w' : World} (h : Below w.heap.size w w') (S : Nat → Prop) : SameS w w' S := ⟨h.size, fun b hb _ => h.block b hb⟩
theorem SameS.grown {w w' : World} {row : Option Nat} (h : w.grownBy w' row) : SameS w w' (fun b => row ≠ some b) := ⟨h.size, fun b hb hs => h.block b hb fun e => hs e.symm⟩
theorem RdS.keep {w w' : World} {S : Nat → Prop} {v : Value} {n : Nat} {xs : List Value} (h : RdS w S v n xs) (hs : SameS w w' S) : RdS w' S v n xs := by
  obtain ⟨A, cap, e, h1, h2, h3, h4⟩ := h
  refine ⟨A, cap, e, h1, h2, h3, fun hn => ?_⟩
  obtain ⟨ad, e2, hl, hS, hc⟩ := h4 hn
  refine ⟨ad, e2, Nat.lt_of_lt_of_le hl hs.1, hS, fun j u hu => ?_⟩
  have hb := hs.2 ad.block hl hS
  have hcj := hc j u hu
  unfold World.cell? at hcj ⊢
  rw [add_block] at hcj ⊢
  rw [hb]; exact hcj
theorem RdS.weak {w : World} {S S' : Nat → Prop} {v : Value} {n : Nat} {xs : List Value} (h : RdS w S v n xs) (hw : ∀ b, b < w.heap.size → S b → S' b) : RdS w S' v n xs := by
  obtain ⟨A, cap, e, h1, h2, h3, h4⟩ := h
  exact ⟨A, cap, e, h1, h2, h3, fun hn => by
    obtain ⟨ad, e2, hl, hS, hc⟩ := h4 hn
    exact ⟨ad, e2, hl, hw _ hl hS, hc⟩⟩
theorem RdS.all {w : World} {S : Nat → Prop} {v : Value} {n : Nat} {xs : List Value} (h : RdS w S v n xs) : RdS w AllB v n xs := h.weak fun _ _ _ => trivial
theorem RdS.below {w w' : World} {S : Nat → Prop} {v : Value} {n : Nat} {xs : List Value} (h : RdS w S v n xs) (hb : Below w.heap.size w w') : RdS w' S v n xs := h.keep (SameS.below hb S)
theorem RdS.nil (w : World) (S : Nat → Prop) : RdS w S (.slice none 0 0) 0 [] := ⟨none, 0, rfl, Nat.le_refl _, Nat.zero_le _, fun _ => rfl, fun h => absurd h (by simp)⟩
theorem RdS.own {w : World} {base n sz : Nat} {e : TypeId} {v : Value} {xs : List Value} (h : w.ownsRow base e sz v n xs) : RdS w (fun b => base ≤ b) v n xs := by
  obtain ⟨hl, ⟨rfl, rfl⟩ | ⟨g, cap, cur, rfl, hg, hgg, h1, h2, h3, h4⟩⟩ := h
  · exact ⟨none, 0, rfl, Nat.le_refl _, Nat.zero_le _, fun _ => rfl, fun h => absurd h (by simp)⟩
  · refine ⟨_, cap, rfl, by omega, h2, (fun h => by cases h), fun hn => ⟨_, rfl, block_lt hgg, hg, fun j u hu => ?_⟩⟩
    have hj : j < n * sz := by have := (List.getElem?_eq_some_iff.1 hu).1; omega
    have hx : cur[j]? = some u := by
      rw [← h4, List.getElem?_take, if_pos hj] at hu
      simpa using hu
    have e : (⟨g, 0, none⟩ : Addr).add j = ⟨g, j, none⟩ := by unfold Addr.add; by_cases h0 : j = 0 <;> simp [h0]
    rw [e, cell_of_row _ _ _ _ _ _ hgg, hx]
theorem RdS.reads {w : World} {S : Nat → Prop} {v : Value} {xs : List Value} (h : RdS w S v xs.length xs) : Reads w w.heap.size v xs := by
  obtain ⟨A, cap, e, h1, h2, h3, h4⟩ := h
  exact ⟨A, cap, e, h1, h2, h3, fun hn => by
    obtain ⟨ad, e2, hl, hS, hc⟩ := h4 hn
    exact ⟨ad, e2, hl, hc⟩⟩
theorem RdS.of_reads {w : World} {v : Value} {xs : List Value} {n : Nat} (h : Reads w w.heap.size v xs) (hn : xs.length = n) : RdS w AllB v n xs := by
  obtain ⟨A, cap, e, h1, h2, h3, h4⟩ := h
  subst hn
  exact ⟨A, cap, e, h1, h2, h3, fun hn => by
    obtain ⟨ad, e2, hl, hc⟩ := h4 hn
    exact ⟨ad, e2, hl, trivial, hc⟩⟩
theorem RdS.form {w : World} {S : Nat → Prop} {v : Value} {n : Nat} {xs : List Value} (h : RdS w S v n xs) : ∃ A cap, v = .slice A n cap ∧ n ≤ cap ∧ cap ≤ maxLen := by
  obtain ⟨A, cap, e, h1, h2, _⟩ := h; exact ⟨A, cap, e, h1, h2⟩
/-- A law of what a value in memory reads as: it stays where its blocks stay. -/
structure Keeps {α : Type} (R : World → (Nat → Prop) → Value → α → Prop) : Prop where
  keep : ∀ {w w' : World} {S : Nat → Prop} {v : Value} {x : α}, R w S v x → SameS w w' S → R w' S v x
  weak : ∀ {w : World} {S S' : Nat → Prop} {v : Value} {x : α}, R w S v x → (∀ b, b < w.heap.size → S b → S' b) → R w S' v x
def ItemsS {α : Type} (R : World → (Nat → Prop) → Value → α → Prop) (w : World) (S : Nat → Prop) (vs : List Value) (r : List α) : Prop :=
  vs.length = r.length ∧ ∀ (k : Nat) (u : Value) (x : α), vs[k]? = some u → r[k]? = some x → R w S u x
theorem ItemsS.nil {α : Type} (R : World → (Nat → Prop) → Value → α → Prop) (w : World) (S : Nat → Prop) : ItemsS R w S [] [] := ⟨rfl, fun k u x h => by simp at h⟩
theorem ItemsS.snoc {α : Type} {R : World → (Nat → Prop) → Value → α → Prop} {w : World} {S : Nat → Prop} {vs : List Value} {r : List α} {u : Value} {x : α} (h : ItemsS R w S vs r) (hx : R w S u x) : ItemsS R w S (vs ++ [u]) (r ++ [x]) := by
  refine ⟨by simp [h.1], fun k a b ha hb => ?_⟩
  rcases Nat.lt_or_ge k vs.length with hk | hk
  · rw [List.getElem?_append_left hk] at ha
    rw [List.getElem?_append_left (by rw [← h.1]; exact hk)] at hb
    exact h.2 k a b ha hb
  · have hkl : k < vs.length + 1 := by have := (List.getElem?_eq_some_iff.1 ha).1; simpa using this
    obtain rfl : k = vs.length := by omega
    have e1 : a = u := by simpa using ha.symm
    rw [h.1] at hb
    have e2 : b = x := by simpa using hb.symm
    subst e1; subst e2; exact hx
theorem ItemsS.keep {α : Type} {R : World → (Nat → Prop) → Value → α → Prop} (K : Keeps R) {w w' : World} {S : Nat → Prop} {vs : List Value} {r : List α} (h : ItemsS R w S vs r) (hs : SameS w w' S) : ItemsS R w' S vs r :=
  ⟨h.1, fun k u x hu hx => K.keep (h.2 k u x hu hx) hs⟩
theorem ItemsS.weak {α : Type} {R : World → (Nat → Prop) → Value → α → Prop} (K : Keeps R) {w : World} {S S' : Nat → Prop} {vs : List Value} {r : List α} (h : ItemsS R w S vs r) (hw : ∀ b, b < w.heap.size → S b → S' b) : ItemsS R w S' vs r :=
  ⟨h.1, fun k u x hu hx => K.weak (h.2 k u x hu hx) hw⟩
def OutS {α : Type} (R : World → (Nat → Prop) → Value → α → Prop) (w : World) (S : Nat → Prop) (v : Value) (r : List α) : Prop :=
  ∃ vs : List Value, RdS w S v r.length vs ∧ ItemsS R w S vs r
theorem OutS.keep {α : Type} {R : World → (Nat → Prop) → Value → α → Prop} (K : Keeps R) {w w' : World} {S : Nat → Prop} {v : Value} {r : List α} (h : OutS R w S v r) (hs : SameS w w' S) : OutS R w' S v r := by
  obtain ⟨vs, h1, h2⟩ := h; exact ⟨vs, h1.keep hs, h2.keep K hs⟩
theorem OutS.below {α : Type} {R : World → (Nat → Prop) → Value → α → Prop} (K : Keeps R) {w w' : World} {S : Nat → Prop} {v : Value} {r : List α} (h : OutS R w S v r) (hb : Below w.heap.size w w') : OutS R w' S v r := h.keep K (SameS.below hb S)
theorem OutS.all {α : Type} {R : World → (Nat → Prop) → Value → α → Prop} (K : Keeps R) {w : World} {S : Nat → Prop} {v : Value} {r : List α} (h : OutS R w S v r) : OutS R w AllB v r := by
  obtain ⟨vs, h1, h2⟩ := h; exact ⟨vs, h1.all, h2.weak K fun _ _ _ => trivial⟩
theorem OutS.form {α : Type} {R : World → (Nat → Prop) → Value → α → Prop} {w : World} {S : Nat → Prop} {v : Value} {r : List α} (h : OutS R w S v r) : ∃ A cap, v = .slice A r.length cap ∧ r.length ≤ cap ∧ cap ≤ maxLen := by
  obtain ⟨vs, h1, _⟩ := h; exact h1.form
/-- The k-th of a row of rows: its cell, and what it reads as. -/
theorem OutS.get {α : Type} [Inhabited α] {R : World → (Nat → Prop) → Value → α → Prop} {w : World} {S : Nat → Prop} {A : Option Addr} {n cap : Nat} {r : List α} (h : OutS R w S (.slice A n cap) r) (k : Nat) (hk : k < r.length) :
    ∃ ad u, A = some ad ∧ w.cell? (ad.add k) = some u ∧ R w S u (r.getD k default) := by
  obtain ⟨vs, ⟨A', cap', e, h1, h2, h3, h4⟩, hi⟩ := h
  cases e
  obtain ⟨ad, rfl, _, _, hc⟩ := h4 (by omega)
  have hkv : k < vs.length := by rw [hi.1]; exact hk
  exact ⟨ad, vs[k], rfl, hc k _ (List.getElem?_eq_getElem hkv), hi.2 k _ _ (List.getElem?_eq_getElem hkv) (by simp [hk])⟩

/-- A bound: its kind, its version's text. -/
abbrev Bd := Nat × ByteArray
def bdL (b : Bd) : Nat × BL := (b.1, b.2.data.toList)
def bdOf (p : Nat × BL) : Bd := (p.1, ⟨p.2.toArray⟩)
theorem bdL_of (p : Nat × BL) : bdL (bdOf p) = p := by simp [bdL, bdOf]
theorem bdOf_L (b : Bd) : bdOf (bdL b) = b := by simp [bdL, bdOf]
def mayB (b : Bd) : Bool := Rng.mayL (bdL b)
def mayRow (row : List Bd) : Bool := decide (1 ≤ row.length ∧ row.length ≤ 16) && row.all mayB
def mayR (r : List (List Bd)) : Bool := decide (r.length ≤ 16) && r.all mayRow
def bdEnc (b : Bd) : List Value := [.int .u8 (b.1 : Int), .string b.2]
def rowCells (row : List Bd) : List Value := row.flatMap bdEnc
theorem rowCells_snoc (row : List Bd) (b : Bd) : rowCells (row ++ [b]) = rowCells row ++ bdEnc b := by simp [rowCells]
theorem rowCells_len (row : List Bd) : (rowCells row).length = row.length * 2 := by
  induction row with
  | nil => rfl
  | cons b row ih => rw [show rowCells (b :: row) = bdEnc b ++ rowCells row from rfl, List.length_append, ih, List.length_cons]; simp [bdEnc]; omega
def BRow (w : World) (S : Nat → Prop) (v : Value) (row : List Bd) : Prop := RdS w S v row.length (rowCells row)
theorem BRow.keeps : Keeps BRow := ⟨fun h hs => RdS.keep h hs, fun h hw => RdS.weak h hw⟩
def RngAt (w : World) (v : Value) (r : List (List Bd)) : Prop := OutS BRow w AllB v r
theorem RngAt.below {w w' : World} {v : Value} {r : List (List Bd)} (h : RngAt w v r) (hb : Below w.heap.size w w') : RngAt w' v r := OutS.below BRow.keeps h hb
instance : Inhabited Bd := ⟨(0, ⟨#[]⟩)⟩
theorem flat_get {α : Type} (f : α → List Value) (n : Nat) (hf : ∀ x, (f x).length = n) : ∀ (l : List α) (k j : Nat) (x : α), l[k]? = some x → j < n → (l.flatMap f)[k * n + j]? = (f x)[j]?
  | [], k, j, x, h, _ => by simp at h
  | y :: l, 0, j, x, h, hj => by
    obtain rfl : y = x := by simpa using h
    rw [List.flatMap_cons, Nat.zero_mul, Nat.zero_add, List.getElem?_append_left (by rw [hf]; exact hj)]
  | y :: l, k + 1, j, x, h, hj => by
    have h2 : l[k]? = some x := by simpa using h
    rw [List.flatMap_cons, List.getElem?_append_right (by rw [hf, Nat.succ_mul]; omega), hf, ← flat_get f n hf l k j x h2 hj]
    congr 1
    rw [Nat.succ_mul]; omega
theorem add_add (ad : Addr) (k j : Nat) : (ad.add k).add j = ad.add (k + j) := by
  unfold Addr.add
  by_cases h1 : k = 0 <;> by_cases h2 : j = 0 <;> simp_all [Nat.add_assoc]
/-- The k-th bound of a row: its cells. -/
theorem BRow.get {w : World} {S : Nat → Prop} {A : Option Addr} {n cap : Nat} {row : List Bd} (h : BRow w S (.slice A n cap) row) (k : Nat) (hk : k < row.length) :
    ∃ ad, A = some ad ∧ ∀ j u, (bdEnc (row.getD k default))[j]? = some u → w.cell? ((ad.add (k * 2)).add j) = some u := by
  obtain ⟨A', cap', e, h1, h2, h3, h4⟩ := h
  cases e
  obtain ⟨ad, rfl, _, _, hc⟩ := h4 (by omega)
  refine ⟨ad, rfl, fun j u hu => ?_⟩
  rw [add_add]
  have hj : j < 2 := by have := (List.getElem?_eq_some_iff.1 hu).1; simpa [bdEnc] using this
  refine hc _ _ ?_
  unfold rowCells
  rw [flat_get bdEnc 2 (fun _ => rfl) row k j (row.getD k default) (by simp [hk]) hj, hu]
end Go.Proofs.YtcnedecmmplmoaaGreatDoor
