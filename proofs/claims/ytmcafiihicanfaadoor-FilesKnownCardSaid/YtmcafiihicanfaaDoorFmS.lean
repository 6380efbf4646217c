/- Versions as plain lists of bytes: parsing, comparing. No program here. -/
import Derived.Lib.IndexMore
import Derived.Lib.ItoaNum
import Derived.Test.YtmcafiihicanfaaDoorShelf
import Derived.Test.YtmcafiihicanfaaDoorFmA
import Derived.WalkKit
import Derived.Lib.Hide
import Derived.Test.YtmcafiihicanfaaDoorFmL
set_option linter.unusedVariables false
set_option linter.unusedSimpArgs false
namespace Go.Proofs.YtmcafiihicanfaaDoor.Ver
open Go

abbrev BL := List UInt8
def digB (c : UInt8) : Bool := decide (48 ≤ c.toNat ∧ c.toNat ≤ 57)
def tagB (c : UInt8) : Bool := decide ((97 ≤ c.toNat ∧ c.toNat ≤ 122) ∨ (48 ≤ c.toNat ∧ c.toNat ≤ 57))
def numV (l : BL) : Nat := l.foldl (fun n c => 10 * n + (c.toNat - 48)) 0
def okNum (l : BL) : Bool := decide (1 ≤ l.length ∧ l.length ≤ 9) && l.all digB && !(decide (l.head? = some 48) && decide (1 < l.length))
def okTag (l : BL) : Bool := decide (l.length ≤ 16) && l.all tagB
def brk (c : UInt8) : BL → BL × BL × Bool
  | [] => ([], [], false)
  | x :: r => if x = c then ([], r, true) else (x :: (brk c r).1, (brk c r).2.1, (brk c r).2.2)
def parts (c : UInt8) : BL → List BL
  | [] => [[]]
  | x :: r => if x = c then [] :: parts c r else match parts c r with
    | [] => [[x]]
    | p :: ps => (x :: p) :: ps
def prsH (l : BL) : Option (List Nat) := if (parts 46 l).length ≤ 8 ∧ (parts 46 l).all okNum = true then some ((parts 46 l).map numV) else none
def prs (l : BL) : Option (List Nat × BL) :=
  if (brk 45 l).2.2 = true then (if (brk 45 l).2.1 ≠ [] ∧ okTag (brk 45 l).2.1 = true then (prsH (brk 45 l).1).map fun ns => (ns, (brk 45 l).2.1) else none)
  else (prsH l).map fun ns => (ns, [])

theorem brk_no (c : UInt8) : ∀ l : BL, (brk c l).2.2 = false → (brk c l).1 = l ∧ (brk c l).2.1 = [] ∧ c ∉ l
  | [], _ => ⟨rfl, rfl, by simp⟩
  | x :: r, h => by
    unfold brk at h ⊢
    by_cases hx : x = c
    · rw [if_pos hx] at h; cases h
    · rw [if_neg hx] at h ⊢
      obtain ⟨h1, h2, h3⟩ := brk_no c r h
      exact ⟨by simp [h1], h2, by simp [h3, Ne.symm hx]⟩
theorem brk_yes (c : UInt8) : ∀ l : BL, (brk c l).2.2 = true → l = (brk c l).1 ++ c :: (brk c l).2.1 ∧ c ∉ (brk c l).1
  | [], h => by cases h
  | x :: r, h => by
    unfold brk at h ⊢
    by_cases hx : x = c
    · rw [if_pos hx]; subst hx; simp
    · rw [if_neg hx] at h ⊢
      obtain ⟨h1, h2⟩ := brk_yes c r h
      exact ⟨by simpa using h1, by simp [h2, Ne.symm hx]⟩
theorem brk_app (c : UInt8) (a r : BL) (h : c ∉ a) : brk c (a ++ c :: r) = (a, r, true) := by
  induction a with
  | nil => simp [brk]
  | cons x a ih =>
    have hx : x ≠ c := fun e => h (by simp [e])
    rw [List.cons_append, brk, if_neg hx, ih (fun e => h (by simp [e]))]
theorem brk_not (c : UInt8) (l : BL) (h : c ∉ l) : brk c l = (l, [], false) := by
  induction l with
  | nil => rfl
  | cons x a ih =>
    have hx : x ≠ c := fun e => h (by simp [e])
    rw [brk, if_neg hx, ih (fun e => h (by simp [e]))]
theorem index_one (c : UInt8) : ∀ l : BL, Lib.index l [c] = if (brk c l).2.2 = true then ((brk c l).1.length : Int) else -1
  | [] => rfl
  | x :: r => by
    have ih := index_one c r
    unfold Lib.index brk
    by_cases hx : x = c
    · subst hx; simp
    · rw [if_neg (by simp [Ne.symm hx]), if_neg hx, ih]
      cases hb : (brk c r).2.2
      · simp [hb]
      · simp only [if_pos, hb]
        rw [if_neg (by simp; try omega)]
        simp
theorem cut_one (c : UInt8) (l : BL) : Lib.cut l [c] = brk c l := by
  unfold Lib.cut
  rw [index_one]
  cases hb : (brk c l).2.2
  · obtain ⟨h1, h2, _⟩ := brk_no c l hb
    have e : brk c l = ((brk c l).1, (brk c l).2.1, (brk c l).2.2) := rfl
    rw [if_neg (by simp), e, h1, h2, hb]
  · obtain ⟨h1, _⟩ := brk_yes c l hb
    have e : brk c l = ((brk c l).1, (brk c l).2.1, (brk c l).2.2) := rfl
    rw [if_pos rfl, if_pos (by omega)]
    generalize (brk c l).1 = a at *
    generalize (brk c l).2.1 = r at *
    rw [e, hb, h1]
    simp
theorem parts_ne (c : UInt8) (l : BL) : parts c l ≠ [] := by
  cases l with
  | nil => simp [parts]
  | cons x r => unfold parts; split; simp; split <;> simp
theorem parts_not (c : UInt8) (l : BL) (h : c ∉ l) : parts c l = [l] := by
  induction l with
  | nil => rfl
  | cons x a ih =>
    have hx : x ≠ c := fun e => h (by simp [e])
    rw [parts, if_neg hx, ih (fun e => h (by simp [e]))]
theorem parts_app (c : UInt8) (a r : BL) (h : c ∉ a) : parts c (a ++ c :: r) = a :: parts c r := by
  induction a with
  | nil => simp [parts]
  | cons x a ih =>
    have hx : x ≠ c := fun e => h (by simp [e])
    rw [List.cons_append, parts, if_neg hx, ih (fun e => h (by simp [e]))]
theorem parts_brk_yes (c : UInt8) (l : BL) (h : (brk c l).2.2 = true) : parts c l = (brk c l).1 :: parts c (brk c l).2.1 := by
  obtain ⟨h1, h2⟩ := brk_yes c l h
  have := parts_app c (brk c l).1 (brk c l).2.1 h2
  rwa [← h1] at this
theorem parts_brk_no (c : UInt8) (l : BL) (h : (brk c l).2.2 = false) : parts c l = [l] := parts_not c l (brk_no c l h).2.2

/-- A number's digits. -/
theorem numV_snoc (l : BL) (c : UInt8) : numV (l ++ [c]) = 10 * numV l + (c.toNat - 48) := by simp [numV]
theorem foldl_lt : ∀ (l : BL) (n k : Nat), l.all digB = true → n < 10 ^ k → l.foldl (fun n c => 10 * n + (c.toNat - 48)) n < 10 ^ (k + l.length)
  | [], n, k, _, h => h
  | c :: l, n, k, ha, h => by
    rw [List.all_cons, Bool.and_eq_true] at ha
    have h2 : c.toNat ≤ 57 := by have := ha.1; simp [digB] at this; omega
    have := foldl_lt l (10 * n + (c.toNat - 48)) (k + 1) ha.2 (by rw [Nat.pow_succ]; omega)
    rw [List.foldl_cons, List.length_cons, show k + (l.length + 1) = k + 1 + l.length by omega]
    exact this
theorem numV_lt (l : BL) (h : l.all digB = true) : numV l < 10 ^ l.length := by
  have := foldl_lt l 0 0 h (by decide)
  simpa [numV] using this
theorem okNum_lt (l : BL) (h : okNum l = true) : numV l < 1000000000 := by
  simp [okNum] at h
  have h1 := numV_lt l (by simp; exact h.1.2)
  have : 10 ^ l.length ≤ 10 ^ 9 := Nat.pow_le_pow_right (by decide) h.1.1.2
  omega
theorem numV_le (l : BL) (h : l.all digB = true) (h9 : l.length ≤ 9) : numV l < 1000000000 := by
  have h1 := numV_lt l h
  have : 10 ^ l.length ≤ 10 ^ 9 := Nat.pow_le_pow_right (by decide) h9
  omega
end Go.Proofs.YtmcafiihicanfaaDoor.Ver

/- strings.Split at one byte, whatever the library's variables hold. -/
namespace Go.Proofs.YtmcafiihicanfaaDoor
open Go.RowKit Go.BigFrame
open Ver (parts brk BL)

theorem indexByte_brk' (c : UInt8) : ∀ l : List UInt8, Lib.indexByte l c = if (brk c l).2.2 = true then ((brk c l).1.length : Int) else -1
  | [] => rfl
  | x :: r => by
    have ih := indexByte_brk' c r
    unfold Lib.indexByte brk
    by_cases hx : x = c
    · subst hx; simp
    · rw [if_neg (by simpa using hx), if_neg hx, ih]
      cases hb : (brk c r).2.2
      · simp [hb]
      · simp only [if_pos, hb]
        rw [if_neg (by simp; try omega)]
        simp

theorem splitK_parts (c : UInt8) : ∀ (k : Nat) (l : BL), l.count c = k → Lib.splitK [c] 0 k l = parts c l
  | 0, l, h => by
    rw [Ver.parts_not c l (List.count_eq_zero.1 h)]; rfl
  | k + 1, l, h => by
    have hb : (brk c l).2.2 = true := by
      cases hb : (brk c l).2.2
      · have := (Ver.brk_no c l hb).2.2
        rw [List.count_eq_zero.2 this] at h; omega
      · rfl
    obtain ⟨he, hn⟩ := Ver.brk_yes c l hb
    have hi := Ver.index_one c l
    rw [if_pos hb] at hi
    rw [Ver.parts_brk_yes c l hb]
    generalize (brk c l).1 = a at *
    generalize (brk c l).2.1 = r at *
    subst he
    have hc : r.count c = k := by
      rw [List.count_append, List.count_eq_zero.2 hn, List.count_cons_self] at h; omega
    unfold Lib.splitK
    rw [hi, if_neg (by simp), ← splitK_parts c k r hc]
    simp
def piecesB (c : UInt8) (s : ByteArray) : List ByteArray := Lib.splitB ⟨#[c]⟩ 0 (Lib.countB s ⟨#[c]⟩) s
theorem pieces_data (c : UInt8) (s : ByteArray) : (piecesB c s).map (·.data.toList) = parts c s.data.toList := by
  unfold piecesB
  rw [Lib.splitB_data]
  refine splitK_parts c _ _ ?_
  show _ = Lib.count s.data.toList [c]
  rw [Lib.count_one]
theorem pieces_len (c : UInt8) (s : ByteArray) : (piecesB c s).length = Lib.countB s ⟨#[c]⟩ + 1 := Lib.splitB_all ⟨#[c]⟩ (Nat.le_refl 1) 0 _ s rfl
theorem pieces_le (c : UInt8) (s : ByteArray) : (piecesB c s).length ≤ s.size + 1 := by
  rw [pieces_len]; have := Lib.countB_le ⟨#[c]⟩ (Nat.le_refl 1) s.size s (Nat.le_refl _); omega
theorem indexB_one (c : UInt8) (x : ByteArray) : Lib.indexB x ⟨#[c]⟩ = Lib.indexByte x.data.toList c := (Ver.index_one c _).trans (indexByte_brk' c _).symm
theorem countB_one (c : UInt8) (s : ByteArray) : Lib.countB s ⟨#[c]⟩ = Lib.countByte s.data.toList c := Lib.count_one c _
set_option maxRecDepth 100000 in
set_option maxHeartbeats 800000 in
theorem split_any (c : UInt8) (s : ByteArray) (w : World) (hs : s.size < 4294967281) :
    Calls Tryd.prog 53 #[.string s, .string ⟨#[c]⟩] w fun e w' => e = .returned (.slice (some ⟨w.heap.size, 0, none⟩) (piecesB c s).length (piecesB c s).length) ∧ w' = w.alloc (.cells ((piecesB c s).map Value.string).toArray 9) := by
  have hle := Lib.countB_le ⟨#[c]⟩ (Nat.le_refl 1) s.size s (Nat.le_refl _)
  have hc := Any.strings_genSplit_core Tryd.lays221 (by kernel_rfl) s ⟨#[c]⟩ 0 (-1) (Lib.countB s ⟨#[c]⟩ + 1) w hs (Nat.le_refl 1) (Nat.zero_le _)
    (fun x cs _ => (Tryd.strings_Index_one x c _).mono fun e w' ⟨he, hw⟩ => ⟨by rw [he, indexB_one], hw⟩)
    ((Tryd.strings_Count_one s c w).mono fun e w' ⟨he, hw⟩ => ⟨by rw [he, countB_one], hw⟩)
    (by decide) (by decide) (by rw [if_pos (by decide)]; omega)
  · rw [Nat.add_sub_cancel, show Lib.splitB ⟨#[c]⟩ 0 (Lib.countB s ⟨#[c]⟩) s = piecesB c s from rfl] at hc
    have e2 : Lib.cellsOf (piecesB c s) (Lib.countB s ⟨#[c]⟩ + 1) = ((piecesB c s).map Value.string).toArray := by rw [← pieces_len]; exact Lib.cellsOf_full _
    rw [e2, ← pieces_len] at hc
    have HC := Lib.hid hc
    clear hc e2 hle
    go_enter Tryd.func53, Tryd.ntmps53
    go_wp2_with (go_at_call 60; refine HC.out.mono ?_; rintro e w' ⟨rfl, rfl⟩)
    go_ret
    exact ⟨rfl, rfl⟩
end Go.Proofs.YtmcafiihicanfaaDoor

/- files: place. -/
namespace Go.Proofs.YtmcafiihicanfaaDoor
open Go Go.RowKit Go.BigFrame
open Fil (Es Nd Sp)

/-- Where the first entry of a name stands. -/
def idxE (nm : ByteArray) : Es → Option Nat
  | .nil => none
  | .cons n' _ _ _ nx => if n'.toList == nm.toList then some 0 else (idxE nm nx).map (· + 1)
def placeN (nd : Nd) (nm : ByteArray) : Nat × Bool := if nd.k = 4 then (match idxE nm nd.es with | some i => (i, true) | none => (0, false)) else (0, false)
theorem es_addr {w : World} {B : Nat} {A : Option Addr} {c : Nat} {es : Es} (hes : EsAt w B (.slice A es.len c) es) (hp0 : 0 < es.len) : ∃ ab ao, A = some ⟨ab, ao, none⟩ ∧ ab < B ∧ CellsAt w B es ⟨ab, ao, none⟩ := by
  obtain ⟨A', c', e, _, _, _, h5⟩ := hes
  obtain ⟨a, ha, hlt, hcc⟩ := h5 hp0
  injection e with e1 e2 e3
  cases hE : es with
  | nil => rw [hE] at hp0; simp [Es.len] at hp0
  | cons nm k d s n' =>
    rw [hE] at hcc
    have := spot_none hcc.1
    obtain ⟨ab, ao, asp⟩ := a
    obtain rfl : asp = none := this
    exact ⟨ab, ao, e1.trans ha, hlt, hcc⟩
set_option maxRecDepth 1000000 in
set_option maxRecDepth 100000 in
set_option maxHeartbeats 4000000 in
theorem place_any (w : World) (B : Nat) (hB : B ≤ w.heap.size) (v : Value) (nd : Nd) (hv : NdV w B v nd) (nm : ByteArray) :
    Calls Tryd.prog 44 #[v, .string nm] w fun e W => e = .returned (.tuple #[.int .i64 ((placeN nd nm).1 : Int), .bool (placeN nd nm).2]) ∧ Below w.heap.size w W := by
  obtain ⟨ev, rfl, hes, hd, hk⟩ := hv
  obtain ⟨A, c, rfl, hlc, hcm⟩ := hes.form
  go_enter Tryd.func44, Tryd.ntmps44
  have hb0 := heap_alloc_new w (.cells #[.int .u8 (nd.k : Int), .string nd.d, .slice A nd.es.len c] 26)
  have hbw0 : Below w.heap.size w (w.alloc (.cells #[.int .u8 (nd.k : Int), .string nd.d, .slice A nd.es.len c] 26)) := (Below.refl _ w).alloc (Nat.le_refl _) _
  by_cases h4 : nd.k = 4
  rotate_left
  · have e4 : ((nd.k : Int) != 4) = true := bne_iff_ne.2 (by omega)
    have hp : placeN nd nm = (0, false) := by unfold placeN; rw [if_neg h4]
    rw [hp]
    clear hb0 hes
    go_wp2
    go_ret2
    exact ⟨rfl, hbw0⟩
  have e4 : ((nd.k : Int) != 4) = false := by rw [h4]; rfl
  have hp : placeN nd nm = (match idxE nm nd.es with | some i => (i, true) | none => (0, false)) := by unfold placeN; rw [if_pos h4]
  have HP := Lib.hid hp
  have HES := Lib.hid hes
  have HB := Lib.hid (And.intro hb0 hbw0)
  clear h4 hp hes hb0 hbw0
  go_wp2
  go_loopg [6, 13] nd.es.len (fun g _ u13 wx => ∃ (rest : Es) (i : Nat), u13 = .int .i64 (i : Int) ∧ i + g = nd.es.len ∧ wx = w.alloc (.cells #[.int .u8 (nd.k : Int), .string nd.d, .slice A nd.es.len c] 26) ∧ Hid (rest.len = g ∧ (0 < g → ∃ a, A = some a ∧ a.block < B ∧ CellsAt w B rest (a.add (4 * i))) ∧ idxE nm nd.es = (idxE nm rest).map (· + i)))
  case atStart =>
    refine ⟨nd.es, 0, rfl, by omega, rfl, rfl, fun hp => ?_, by simp⟩
    obtain ⟨ab, ao, hA, hlt, hcc⟩ := es_addr HES.out hp
    exact ⟨_, hA, hlt, by simpa [add_none] using hcc⟩
  case round =>
    obtain ⟨rest, i, rfl, hig, rfl, HR⟩ := hrel
    cases gk with
    | zero =>
      have HN := Lib.hid (show placeN nd nm = (0, false) by
        obtain ⟨e1, _, e2⟩ := HR.out
        rw [HP.out, e2]
        cases rest with
        | nil => rfl
        | cons _ _ _ _ _ => simp [Es.len] at e1)
      obtain rfl : i = nd.es.len := by omega
      go_wp2
      go_ret2
      exact ⟨by rw [HN.out]; rfl, HB.out.2⟩
    | succ g =>
      obtain ⟨e1, e2, e3⟩ := HR.out
      cases rest with
      | nil => simp [Es.len] at e1
      | cons nm' k d s n' =>
        obtain ⟨ab, ao, rfl, hlt, _⟩ := es_addr HES.out (by omega)
        obtain ⟨a, ha, _, hcc⟩ := e2 (by omega)
        obtain rfl : a = ⟨ab, ao, none⟩ := (Option.some.inj ha).symm
        obtain ⟨hc0, _, _, hnm, _, _, _, hct⟩ := hcc
        have hc0' : (w.alloc (.cells #[.int .u8 (nd.k : Int), .string nd.d, .slice (some ⟨ab, ao, none⟩) nd.es.len c] 26)).cell? ⟨ab, ao + i * 4, none⟩ = some (.string nm') := by
          rw [HB.out.2.cell (p := ⟨ab, ao + i * 4, none⟩) (Nat.lt_of_lt_of_le hlt hB)]
          rw [add_none, Nat.mul_comm] at hc0
          exact hc0
        have hil : i < nd.es.len := by omega
        have hw1 : IntKind.i64.wrap ((i : Int) + 1) = (i : Int) + 1 := IntWalk.i64_in _ (by unfold maxLen at hcm; omega)
        have hlen : n'.len = g := by simp [Es.len] at e1; exact e1
        have HX := Lib.hid (And.intro hct (And.intro hlt (And.intro hlen e3)))
        clear e1 e2 e3 hc0 hct hlt hlen ha hnm
        rcases Bool.eq_false_or_eq_true (nm'.toList == nm.toList) with hq | hq
        · have HN := Lib.hid (show placeN nd nm = (i, true) by rw [HP.out, HX.out.2.2.2]; simp only [idxE, hq, if_true, Option.map_some]; simp)
          go_wp2
          go_ret2
          exact ⟨by rw [HN.out]; rfl, HB.out.2⟩
        · have HN := Lib.hid (show idxE nm nd.es = (idxE nm n').map (· + (i + 1)) by rw [HX.out.2.2.2]; simp only [idxE, hq, Bool.false_eq_true, if_false, Option.map_map]; congr 1; funext x; simp; omega)
          go_wp2
          go_roundg g
          case measure => omega
          case rel =>
            refine ⟨n', i + 1, by simp, by omega, rfl, HX.out.2.2.1, fun hp => ⟨_, rfl, HX.out.2.1, ?_⟩, HN.out⟩
            have := HX.out.1
            rw [add_none, add_none] at this
            rw [add_none]
            rw [show ao + 4 * (i + 1) = ao + 4 * i + 4 by omega]
            exact this
end Go.Proofs.YtmcafiihicanfaaDoor

/- files: row. -/
namespace Go.Proofs.YtmcafiihicanfaaDoor
open Go Go.RowKit Go.BigFrame
open Fil (Es Nd Sp)

/-- A row of texts of its own. -/
def TxAt (W : World) (b : Nat) (v : Value) (l : List ByteArray) : Prop :=
  (l = [] ∧ v = .slice none 0 0) ∨ ∃ g, b ≤ g ∧ v = .slice (some ⟨g, 0, none⟩) l.length l.length ∧ W.heap[g]? = some (.cells (l.map Value.string).toArray 9 (0, 0))
/-- The names of a path. -/
def rowN (s : ByteArray) : Option (List ByteArray) := if s.toList.isEmpty then some [] else if (piecesB 47 s).all Fil.nameB then some (piecesB 47 s) else none
def RowPost (w : World) (s : ByteArray) (e : Ending) (W : World) : Prop :=
  Below w.heap.size w W ∧ match rowN s with
  | none => e = .returned (.tuple #[.slice none 0 0, .bool false])
  | some l => ∃ v, e = .returned (.tuple #[v, .bool true]) ∧ TxAt W w.heap.size v l
set_option maxRecDepth 1000000 in
set_option maxRecDepth 100000 in
set_option maxHeartbeats 4000000 in
theorem row_any (s : ByteArray) (hs : s.size < 4294967281) (w : World) : Calls Tryd.prog 43 #[.string s] w (RowPost w s) := by
  go_enter Tryd.func43, Tryd.ntmps43
  rcases Bool.eq_false_or_eq_true s.toList.isEmpty with he | he
  · have HR := Lib.hid (show rowN s = some [] by unfold rowN; rw [if_pos he])
    go_wp2
    go_ret2
    refine ⟨Below.refl _ _, ?_⟩
    rw [HR.out]
    exact ⟨_, rfl, .inl ⟨rfl, rfl⟩⟩
  have HS := Lib.hid (fun w => split_any 47 s w hs)
  have HL := Lib.hid (pieces_le 47 s)
  have HR := Lib.hid (show rowN s = if (piecesB 47 s).all Fil.nameB then some (piecesB 47 s) else none by unfold rowN; rw [if_neg (by simp [he])])
  generalize piecesB 47 s = l at *
  go_wp2_with (go_at_call 53; refine (HS.out _).mono ?_; rintro e w' ⟨rfl, rfl⟩)
  have hbw0 : Below w.heap.size w (w.alloc (.cells (l.map Value.string).toArray 9)) := (Below.refl _ w).alloc (Nat.le_refl _) _
  have hg0 := heap_alloc_new w (.cells (l.map Value.string).toArray 9)
  have hsz : (w.alloc (.cells (l.map Value.string).toArray 9)).heap.size = w.heap.size + 1 := by simp
  have HB := Lib.hid (And.intro hbw0 (And.intro hg0 hsz))
  clear hbw0 hg0 hsz
  generalize w.alloc (.cells (l.map Value.string).toArray 9) = W0 at *
  go_loopg [6, 13] l.length (fun g _ u13 wx => ∃ i : Nat, u13 = .int .i64 (i : Int) ∧ i + g = l.length ∧ Below W0.heap.size W0 wx ∧ Hid (∀ j x, j < i → l[j]? = some x → Fil.nameB x = true))
  case atStart => exact ⟨0, rfl, by omega, Below.refl _ _, fun j x hj => by omega⟩
  case round =>
    obtain ⟨i, rfl, hig, hbw, HN⟩ := hrel
    have hbl : Below w.heap.size w wr := HB.out.1.trans (hbw.mono (by have := HB.out.2.2; omega))
    have hrow : wr.heap[w.heap.size]? = some (.cells (l.map Value.string).toArray 9 (0, 0)) := (hbw.block _ (by have := HB.out.2.2; omega)).trans HB.out.2.1
    cases gk with
    | zero =>
      obtain rfl : i = l.length := by omega
      have HR2 := Lib.hid (show rowN s = some l by
        rw [HR.out, if_pos]
        rw [List.all_eq_true]
        intro x hx
        obtain ⟨j, hj, rfl⟩ := List.getElem_of_mem hx
        exact HN.out j _ hj (List.getElem?_eq_getElem hj))
      have HRW := Lib.hid hrow
      clear hrow
      go_wp2
      go_ret2
      refine ⟨hbl, ?_⟩
      rw [HR2.out]
      exact ⟨_, rfl, .inr ⟨_, Nat.le_refl _, rfl, HRW.out⟩⟩
    | succ g =>
      have hil : i < l.length := by omega
      obtain ⟨x, hx⟩ : ∃ x, l[i]? = some x := ⟨_, List.getElem?_eq_getElem hil⟩
      have hcell : wr.cell? ⟨w.heap.size, i, none⟩ = some (.string x) := by
        rw [cell_of_row _ _ _ _ _ _ hrow]
        simp [hx]
      have HX := Lib.hid hx
      have hsl := HL.out
      have hw1 : IntKind.i64.wrap ((i : Int) + 1) = (i : Int) + 1 := IntWalk.i64_in _ (by omega)
      have HM := Lib.hid (fun w => name_any x w)
      clear hrow hx hsl
      rcases Bool.eq_false_or_eq_true (Fil.nameB x) with hn | hn
      · have HNX := Lib.hid hn
        go_wp2_with (go_at_call 10; refine (HM.out _).mono ?_; rintro e W2 ⟨rfl, hb2⟩; rw [hn])
        go_roundg g
        case measure => omega
        case rel =>
          refine ⟨i + 1, by simp, by omega, hbw.trans (hb2.mono hbw.size), fun j y hj hy => ?_⟩
          rcases Nat.lt_or_ge j i with hji | hji
          · exact HN.out j y hji hy
          · obtain rfl : j = i := by omega
            rw [HX.out] at hy
            cases hy
            exact HNX.out
      · have HR2 := Lib.hid (show rowN s = none by
          rw [HR.out, if_neg]
          intro ha
          rw [List.all_eq_true] at ha
          have := ha x (List.mem_of_getElem? HX.out)
          rw [hn] at this
          cases this)
        go_wp2_with (go_at_call 10; refine (HM.out _).mono ?_; rintro e W2 ⟨rfl, hb2⟩; rw [hn])
        go_ret2
        refine ⟨hbl.trans (hb2.mono hbl.size), ?_⟩
        rw [HR2.out]
        rfl
end Go.Proofs.YtmcafiihicanfaaDoor

/- files: At. -/
namespace Go.Proofs.YtmcafiihicanfaaDoor
open Go Go.RowKit Go.BigFrame
open Fil (Es Nd Sp)

/-- The node of an entry. -/
def kidE : Es → Nat → Nd
  | .nil, _ => default
  | .cons _ k d s _, 0 => ⟨k, d, s⟩
  | .cons _ _ _ _ nx, i + 1 => kidE nx i
/-- The node behind a row of names. -/
def atN : Nd → List ByteArray → Option Nd
  | nd, [] => some nd
  | nd, nm :: l => if (placeN nd nm).2 then atN (kidE nd.es (placeN nd nm).1) l else none
def zNd : Nd := ⟨0, ⟨#[]⟩, .nil⟩
def atR (nd : Nd) (s : ByteArray) : Nat × Nd := match rowN s with
  | none => (2, zNd)
  | some l => match atN nd l with | none => (5, zNd) | some x => (0, x)
theorem idxE_lt {nm : ByteArray} : ∀ {es : Es} {i : Nat}, idxE nm es = some i → i < es.len
  | .nil, _, h => by cases h
  | .cons n' _ _ _ nx, i, h => by
    unfold idxE at h
    split at h
    · cases h; simp [Es.len]
    · cases hx : idxE nm nx with
      | none => rw [hx] at h; cases h
      | some j => rw [hx] at h; cases h; have := idxE_lt hx; simp [Es.len]; omega
theorem placeN_lt {nd : Nd} {nm : ByteArray} (h : (placeN nd nm).2 = true) : (placeN nd nm).1 < nd.es.len := by
  unfold placeN at h ⊢
  split at h
  · cases hx : idxE nm nd.es with
    | none => rw [hx] at h; cases h
    | some j => rename_i h4; rw [if_pos h4]; exact idxE_lt hx
  · cases h
/-- An entry's node in memory. -/
theorem kid_at {w : World} {B : Nat} : ∀ {es : Es} {ab ao i : Nat}, CellsAt w B es ⟨ab, ao, none⟩ → i < es.len → ab < B →
    w.cell? ⟨ab, ao + i * 4 + 1, none⟩ = some (.int .u8 ((kidE es i).k : Int)) ∧ w.cell? ⟨ab, ao + i * 4 + 2, none⟩ = some (.string (kidE es i).d) ∧ (kidE es i).d.size ≤ maxLen ∧ (kidE es i).k < 256 ∧
      ∃ A c, w.cell? ⟨ab, ao + i * 4 + 3, none⟩ = some (.slice A (kidE es i).es.len c) ∧ EsAt w B (.slice A (kidE es i).es.len c) (kidE es i).es
  | .nil, _, _, _, _, h, _ => by simp [Es.len] at h
  | .cons nm k d s nx, ab, ao, 0, hc, _, hlt => by
    obtain ⟨h0, h1, h2, h3, h4, h5, ⟨A, cap, h6, h7, h8, h9, h10⟩, h11⟩ := hc
    rw [add_none] at h1 h2 h6
    refine ⟨by simpa [kidE] using h1, by simpa [kidE] using h2, h4, h5, A, cap, by simpa [kidE] using h6, A, cap, rfl, h7, h8, h9, h10⟩
  | .cons nm k d s nx, ab, ao, i + 1, hc, h, hlt => by
    obtain ⟨h0, h1, h2, h3, h4, h5, h6, h11⟩ := hc
    rw [add_none] at h11
    have ih := kid_at (i := i) h11 (by simp [Es.len] at h; omega) hlt
    have e : ∀ j, ao + 4 + i * 4 + j = ao + (i + 1) * 4 + j := fun j => by omega
    rw [e, e, e] at ih
    exact ih
/-- The cells of a node. -/
def ndCells (k : Nat) (d : ByteArray) (v : Value) : Obj := .cells #[.int .u8 (k : Int), .string d, v] 26 (0, 0)
theorem nd_box {W : World} {g k : Nat} {d : ByteArray} {v : Value} (h : W.heap[g]? = some (ndCells k d v)) : W.cell? ⟨g, 0, none⟩ = some (.int .u8 (k : Int)) ∧ W.cell? ⟨g, 1, none⟩ = some (.string d) ∧ W.cell? ⟨g, 2, none⟩ = some v ∧ W.frozen? ⟨g, 0, none⟩ = false ∧ W.frozen? ⟨g, 1, none⟩ = false ∧ W.frozen? ⟨g, 2, none⟩ = false := by
  unfold ndCells at h
  refine ⟨?_, ?_, ?_, frozen_of_row _ _ _ _ _ h, frozen_of_row _ _ _ _ _ h, frozen_of_row _ _ _ _ _ h⟩ <;> (rw [cell_of_row _ _ _ _ _ _ h]; rfl)
/-- Two results: a node in a box, and a code. -/
theorem node_results {fn : Func} {p u : Tmp} (hfn : fn.results = #[.cell p 26, .tmp u]) {W : World} {g : Nat} {cs : Array Value} {t : Array Value} (hcs : cs.size = 3) (h : W.heap[g]? = some (.cells cs 26 (0, 0))) (hp : t.getD p undef = .pointer (some ⟨g, 0, none⟩)) :
    (results fn t).run Tryd.prog W = .ok (.tuple #[.agg cs, t.getD u undef]) W := by
  have hi : (Tryd.prog.info? 26).map (·.size) = some cs.size := by rw [hcs]; kernel_rfl
  exact results_cell_tmp hfn t W g _ cs (0, 0) _ _ hp rfl h Tryd.underlying26 (by rfl) hi
theorem tx_keep {W W' : World} {b : Nat} {v : Value} {l : List ByteArray} (h : TxAt W b v l) (hk : ∀ g, b ≤ g → g < W.heap.size → W'.heap[g]? = W.heap[g]?) : TxAt W' b v l := by
  rcases h with h | ⟨g, h1, h2, h3⟩
  · exact .inl h
  · exact .inr ⟨g, h1, h2, (hk g h1 (Array.getElem?_eq_some_iff.1 h3).1).trans h3⟩
theorem tx_cell {W : World} {b : Nat} {v : Value} {l : List ByteArray} (h : TxAt W b v l) {i : Nat} {x : ByteArray} (hx : l[i]? = some x) : ∃ g, b ≤ g ∧ v = .slice (some ⟨g, 0, none⟩) l.length l.length ∧ W.cell? ⟨g, i, none⟩ = some (.string x) := by
  rcases h with ⟨rfl, _⟩ | ⟨g, h1, h2, h3⟩
  · simp at hx
  · refine ⟨g, h1, h2, ?_⟩
    rw [cell_of_row _ _ _ _ _ _ h3]
    simp [hx]
theorem rowN_len {s : ByteArray} {l : List ByteArray} (h : rowN s = some l) : l.length ≤ s.size + 1 := by
  unfold rowN at h
  split at h
  · cases h; simp
  · split at h
    · cases h; exact pieces_le 47 s
    · cases h
/-- Between two rounds of At. -/
structure AtInv (w : World) (B : Nat) (nd : Nd) (l : List ByteArray) (gr : Option Addr) (i : Nat) (cur : Nd) (A' : Option Addr) (c' : Nat) (W : World) : Prop where
  box : W.heap[w.heap.size]? = some (.cells #[.int .u8 (cur.k : Int), .string cur.d, .slice A' cur.es.len c'] 26 (0, 0))
  res : W.heap[w.heap.size + 1]? = some (.cells #[.int .u8 0, .string ⟨#[]⟩, .slice none 0 0] 26 (0, 0))
  es : EsAt W B (.slice A' cur.es.len c') cur.es
  dz : cur.d.size ≤ maxLen
  kz : cur.k < 256
  row : TxAt W (w.heap.size + 2) (.slice gr l.length l.length) l
  below : Below w.heap.size w W
  at' : atN nd l = atN cur (l.drop i)
theorem AtInv.keep {w : World} {B : Nat} {nd : Nd} {l : List ByteArray} {gr : Option Addr} {i : Nat} {cur : Nd} {A' : Option Addr} {c' : Nat} {W W' : World} (h : AtInv w B nd l gr i cur A' c' W) (hB : B ≤ w.heap.size) (hb : Below W.heap.size W W') : AtInv w B nd l gr i cur A' c' W' := by
  have h1 := (Array.getElem?_eq_some_iff.1 h.res).1
  exact ⟨(hb.block _ (by omega)).trans h.box, (hb.block _ h1).trans h.res, h.es.keep (hb.mono (by omega)), h.dz, h.kz, tx_keep h.row (fun g _ hg => hb.block g hg), h.below.trans (hb.mono (by omega)), h.at'⟩
def AtPost (w : World) (B : Nat) (nd : Nd) (s : ByteArray) (e : Ending) (W : World) : Prop :=
  Below w.heap.size w W ∧ ∃ v, e = .returned (.tuple #[v, .int .i64 ((atR nd s).1 : Int)]) ∧ NdV W B v (atR nd s).2
set_option maxRecDepth 1000000 in
set_option maxRecDepth 100000 in
set_option maxHeartbeats 4000000 in
theorem at_any (w : World) (B : Nat) (hB : B ≤ w.heap.size) (v : Value) (nd : Nd) (hv : NdV w B v nd) (s : ByteArray) (hs : s.size < 4294967281) :
    Calls Tryd.prog 24 #[v, .string s] w (AtPost w B nd s) := by
  obtain ⟨ev, rfl, hes, hd, hk⟩ := hv
  obtain ⟨A, c, rfl, hlc, hcm⟩ := hes.form
  go_enter Tryd.func24, Tryd.ntmps24
  have HROW := Lib.hid (fun w => row_any s hs w)
  have hrz : ((w.alloc (ndCells nd.k nd.d (.slice A nd.es.len c))).alloc (ndCells 0 ⟨#[]⟩ (.slice none 0 0))).heap[w.heap.size + 1]? = some (.cells #[.int .u8 0, .string ⟨#[]⟩, .slice none 0 0] 26 (0, 0)) := heap_alloc2_new w _ _
  have hnz : ((w.alloc (ndCells nd.k nd.d (.slice A nd.es.len c))).alloc (ndCells 0 ⟨#[]⟩ (.slice none 0 0))).heap[w.heap.size]? = some (ndCells nd.k nd.d (.slice A nd.es.len c)) := (old_block _ _ _ (by simp)).trans (heap_alloc_new _ _)
  have hbz : Below w.heap.size w ((w.alloc (ndCells nd.k nd.d (.slice A nd.es.len c))).alloc (ndCells 0 ⟨#[]⟩ (.slice none 0 0))) := ((Below.refl _ w).alloc (Nat.le_refl _) _).alloc (by simp) _
  have hsz : ((w.alloc (ndCells nd.k nd.d (.slice A nd.es.len c))).alloc (ndCells 0 ⟨#[]⟩ (.slice none 0 0))).heap.size = w.heap.size + 2 := by simp
  have HZ := Lib.hid (And.intro hrz (And.intro hnz (And.intro hbz hsz)))
  clear hrz hnz hbz hsz
  unfold ndCells at HZ
  cases hr : rowN s with
  | none =>
    have HRN := Lib.hid (show atR nd s = (2, zNd) by unfold atR; rw [hr])
    have HRM := Lib.hid hr
    clear hr
    go_wp2_with (first
      | (go_at_call 43; refine (HROW.out _).mono ?_; rintro e W ⟨hb, he⟩; rw [HRM.out] at he; simp only at he; subst he
         have hrb := (hb.block (w.heap.size + 1) (by simp)).trans HZ.out.1)
      | (refine wpList_store_row rfl _ _ _ rfl _ _ rfl rfl _ _ hrb (by kernel_rfl) (by rfl) (by simp [Value.oneCell']) ?_))
    have hbw : Below w.heap.size w (W.setRow (w.heap.size + 1) #[.int .u8 0, .string ⟨#[]⟩, .slice none 0 0]) := below_setRow (HZ.out.2.2.1.trans (hb.mono (by simp; omega))) (by omega) _
    refine bodyPost_ret (node_results rfl (cs := #[.int .u8 0, .string ⟨#[]⟩, .slice none 0 0]) rfl (setRow_heap _ _ _ _ _ _ hrb) rfl) rfl ⟨hbw, ?_⟩
    rw [HRN.out]
    exact ⟨_, rfl, _, rfl, EsAt.nil _ _, by decide, by decide⟩
  | some l =>
    have HRN := Lib.hid (show atR nd s = (match atN nd l with | none => (5, zNd) | some x => (0, x)) by unfold atR; rw [hr])
    have HRM := Lib.hid hr
    clear hr
    go_wp2_with (first
      | (go_at_call 43; refine (HROW.out _).mono ?_; rintro e W ⟨hb, he⟩; rw [HRM.out] at he; obtain ⟨vr, rfl, htx⟩ := he
         have hvr : ∃ gr, vr = .slice gr l.length l.length := by
           rcases htx with ⟨rfl, rfl⟩ | ⟨g, _, rfl, _⟩
           · exact ⟨_, rfl⟩
           · exact ⟨_, rfl⟩
         obtain ⟨gr, rfl⟩ := hvr)
      | (refine wpList_store_row rfl _ _ _ rfl _ _ rfl rfl _ _ hrb (by kernel_rfl) (by rfl) (by simp [Value.oneCell']) ?_))
    have hW0 : AtInv w B nd l gr 0 nd A c W := by
      have hz := hb.size
      simp at hz
      refine ⟨(hb.block _ (by simp; omega)).trans HZ.out.2.1, (hb.block _ (by simp)).trans HZ.out.1, hes.keep ((HZ.out.2.2.1.trans (hb.mono (by simp; omega))).mono hB), hd, hk, ?_, HZ.out.2.2.1.trans (hb.mono (by simp; omega)), by simp⟩
      rw [show w.heap.size + 2 = w.heap.size + 1 + 1 from rfl]
      simpa using htx
    have HW0 := Lib.hid hW0
    clear hW0 htx hb hes hd hk hlc hcm
    go_loopg [9, 10, 11, 22] l.length (fun g _ _ _ u22 wx => ∃ (i : Nat) (cur : Nd) (A' : Option Addr) (c' : Nat), u22 = .int .i64 (i : Int) ∧ i + g = l.length ∧ Hid (AtInv w B nd l gr i cur A' c' wx))
    case atStart => exact ⟨0, nd, A, c, rfl, by omega, HW0.out⟩
    case round =>
      clear HW0
      obtain ⟨i, cur, A', c', rfl, hig, HI⟩ := hrel
      cases gk with
      | zero =>
        obtain rfl : i = l.length := by omega
        obtain ⟨hn0, hn1, hn2, _⟩ := nd_box (W := wr) (k := cur.k) (d := cur.d) (v := .slice A' cur.es.len c') HI.out.box
        have hrb := HI.out.res
        have HRB := Lib.hid hrb
        go_wp2_with (refine wpList_store_row rfl _ _ _ rfl _ _ rfl rfl _ _ hrb (by kernel_rfl) (by rfl) (by simp [Value.oneCell']) ?_)
        have hbw : Below w.heap.size w (wr.setRow (w.heap.size + 1) #[.int .u8 (cur.k : Int), .string cur.d, .slice A' cur.es.len c']) := below_setRow HI.out.below (by omega) _
        refine bodyPost_ret (node_results rfl (cs := #[.int .u8 (cur.k : Int), .string cur.d, .slice A' cur.es.len c']) rfl (setRow_heap _ _ _ _ _ _ HRB.out) rfl) rfl ⟨hbw, ?_⟩
        have he : atN nd l = some cur := by rw [HI.out.at', List.drop_eq_nil_of_le (Nat.le_refl _)]; rfl
        rw [HRN.out, he]
        exact ⟨_, rfl, _, rfl, HI.out.es.keep (below_setRow (Below.refl _ _) (by omega) _), HI.out.dz, HI.out.kz⟩
      | succ g =>
        have hil : i < l.length := by omega
        obtain ⟨x, hx⟩ : ∃ x, l[i]? = some x := ⟨_, List.getElem?_eq_getElem hil⟩
        obtain ⟨gq, hgq, hge, hcell⟩ := tx_cell HI.out.row hx
        injection hge with hge1 _ _
        subst hge1
        obtain ⟨hn0, hn1, hn2, _⟩ := nd_box (W := wr) (k := cur.k) (d := cur.d) (v := .slice A' cur.es.len c') HI.out.box
        have hdrop : l.drop i = x :: l.drop (i + 1) := by
          rw [List.drop_eq_getElem_cons hil]
          rw [List.getElem?_eq_getElem hil] at hx
          rw [Option.some.inj hx]
        have hat : atN nd l = if (placeN cur x).2 then atN (kidE cur.es (placeN cur x).1) (l.drop (i + 1)) else none := by rw [HI.out.at', hdrop]; rfl
        have HAT := Lib.hid hat
        have HPL := Lib.hid (place_any wr B (Nat.le_trans hB HI.out.below.size) _ cur ⟨_, rfl, HI.out.es, HI.out.dz, HI.out.kz⟩ x)
        have hll := rowN_len HRM.out
        have hw1 : IntKind.i64.wrap ((i : Int) + 1) = (i : Int) + 1 := IntWalk.i64_in _ (by omega)
        clear hx hdrop hat hll
        cases hp : (placeN cur x).2 with
        | false =>
          rw [hp] at HAT HPL
          have HE := Lib.hid (show atR nd s = (5, zNd) by rw [HRN.out, HAT.out]; rfl)
          generalize (placeN cur x).1 = pi at *
          clear hp
          go_wp2_with (first
            | (go_at_call 44; refine HPL.out.mono ?_; rintro e W2 ⟨rfl, hb2⟩
               have hI2 := HI.out.keep hB hb2
               have hrb := hI2.res)
            | (refine wpList_store_row rfl _ _ _ rfl _ _ rfl rfl _ _ hrb (by kernel_rfl) (by rfl) (by simp [Value.oneCell']) ?_))
          have hbw : Below w.heap.size w (W2.setRow (w.heap.size + 1) #[.int .u8 0, .string ⟨#[]⟩, .slice none 0 0]) := below_setRow hI2.below (by omega) _
          refine bodyPost_ret (node_results rfl (cs := #[.int .u8 0, .string ⟨#[]⟩, .slice none 0 0]) rfl (setRow_heap _ _ _ _ _ _ hrb) rfl) rfl ⟨hbw, ?_⟩
          rw [HE.out]
          exact ⟨_, rfl, _, rfl, EsAt.nil _ _, by decide, by decide⟩
        | true =>
          have hpl := placeN_lt hp
          rw [hp] at HAT HPL
          obtain ⟨ab, ao, rfl, hlt, hcs⟩ := es_addr HI.out.es (by omega)
          obtain ⟨hk1, hk2, hk3, hk4, A2, c2, hk5, hk6⟩ := kid_at hcs hpl hlt
          generalize (placeN cur x).1 = pi at *
          have HK := Lib.hid (And.intro hk1 (And.intro hk2 (And.intro hk3 (And.intro hk4 (And.intro hk5 hk6)))))
          clear hp hcs hk1 hk2 hk3 hk4 hk5 hk6
          go_wp2_with (first
            | (go_at_call 44; refine HPL.out.mono ?_; rintro e W2 ⟨rfl, hb2⟩
               have hI2 := HI.out.keep hB hb2
               have hnb := hI2.box
               have hm2 := (nd_box (W := W2) (k := cur.k) (d := cur.d) (v := .slice (some ⟨ab, ao, none⟩) cur.es.len c') hI2.box).2.2.1
               have hBr : B ≤ wr.heap.size := Nat.le_trans hB HI.out.below.size
               have hq1 : W2.cell? ⟨ab, ao + pi * 4 + 1, none⟩ = _ := (hb2.cell (p := ⟨ab, ao + pi * 4 + 1, none⟩) (by show ab < _; omega)).trans HK.out.1
               have hq2 : W2.cell? ⟨ab, ao + pi * 4 + 2, none⟩ = _ := (hb2.cell (p := ⟨ab, ao + pi * 4 + 2, none⟩) (by show ab < _; omega)).trans HK.out.2.1
               have hq3 : W2.cell? ⟨ab, ao + pi * 4 + 3, none⟩ = _ := (hb2.cell (p := ⟨ab, ao + pi * 4 + 3, none⟩) (by show ab < _; omega)).trans HK.out.2.2.2.2.1)
            | (refine wpList_store_row rfl _ _ _ rfl _ _ rfl rfl _ _ hnb (by kernel_rfl) (by rfl) (by simp [Value.oneCell']) ?_))
          go_roundg g
          case measure => omega
          case rel =>
            have hbs : Below B W2 (W2.setRow w.heap.size #[.int .u8 ((kidE cur.es pi).k : Int), .string (kidE cur.es pi).d, .slice A2 (kidE cur.es pi).es.len c2]) := below_setRow (Below.refl _ _) hB _
            refine ⟨i + 1, kidE cur.es pi, A2, c2, by simp, by omega, ⟨setRow_heap _ _ _ _ _ _ hI2.box, (setRow_other _ _ _ _ (by omega)).trans hI2.res, (HK.out.2.2.2.2.2.keep (hb2.mono hBr)).keep hbs, HK.out.2.2.1, HK.out.2.2.2.1, tx_keep hI2.row (fun g hg _ => setRow_other _ _ _ _ (by omega)), below_setRow hI2.below (Nat.le_refl _) _, by rw [HAT.out]; rfl⟩⟩
end Go.Proofs.YtmcafiihicanfaaDoor
