/- disk: names, files, the state (maths). -/
import Derived.Sort.KeysCollected
import Derived.Test.YtfgbaigpmhnoaaaBase
import Derived.Test.YtfgbaigpmhnoaaaDmB
import Derived.Maps.Own
import Derived.Maps.OwnOps
import Derived.Maps.OwnSet
import Derived.Maps.Views
import Derived.LoopTactic
set_option linter.unusedVariables false
set_option linter.unusedSimpArgs false
namespace Go.Proofs.Ytfgbaigpmhnoaaa.Dsk

structure Fl where
  b : List Nat
  sure : Nat
  ever : Bool
/-- Which of two names is ahead. -/
def ltB (s t : ByteArray) : Bool := decide (s.data.toList < t.data.toList)
theorem ltB_irrefl (s : ByteArray) : ltB s s = false := by
  unfold ltB
  rw [decide_eq_false_iff_not]
  exact List.lt_irrefl _
theorem ltB_trans {s t u : ByteArray} (h1 : ltB s t = true) (h2 : ltB t u = true) : ltB s u = true := by
  unfold ltB at *
  rw [decide_eq_true_eq] at *
  exact List.lt_trans h1 h2
theorem ltB_asymm {s t : ByteArray} (h1 : ltB s t = true) : ltB t s = false := by
  cases h : ltB t s with
  | false => rfl
  | true => have := ltB_trans h1 h; rw [ltB_irrefl] at this; cases this
theorem ltB_ne {s t : ByteArray} (h : ltB s t = true) : s ≠ t := fun e => by subst e; rw [ltB_irrefl] at h; cases h
theorem ltB_total {s t : ByteArray} (h : s ≠ t) : ltB s t = true ∨ ltB t s = true := by
  unfold ltB
  rw [decide_eq_true_eq, decide_eq_true_eq]
  by_cases h1 : s.data.toList < t.data.toList
  · exact .inl h1
  · by_cases h2 : t.data.toList < s.data.toList
    · exact .inr h2
    · exact absurd (str_ext (List.le_antisymm (List.not_lt.1 h2) (List.not_lt.1 h1))) h
abbrev FS := List (ByteArray × Fl)
def get : FS → ByteArray → Option Fl
  | [], _ => none
  | (t, f) :: r, s => if t = s then some f else get r s
def put : FS → ByteArray → Fl → FS
  | [], s, f => [(s, f)]
  | (t, g) :: r, s, f => if t = s then (s, f) :: r else if ltB s t then (s, f) :: (t, g) :: r else (t, g) :: put r s f
def drop : FS → ByteArray → FS
  | [], _ => []
  | (t, g) :: r, s => if t = s then r else (t, g) :: drop r s
def used : FS → Nat
  | [] => 0
  | (_, f) :: r => f.b.length + used r
def lenO (o : Option Fl) : Nat := match o with | some f => f.b.length | none => 0
def Sorted (fs : FS) : Prop := fs.Pairwise fun p q => ltB p.1 q.1 = true
theorem get_put_same : ∀ (fs : FS) (s : ByteArray) (f : Fl), get (put fs s f) s = some f
  | [], s, f => by simp [put, get]
  | (t, g) :: r, s, f => by
    unfold put
    by_cases h : t = s
    · rw [if_pos h]; simp [get]
    · rw [if_neg h]
      split
      · simp [get]
      · simp [get, h, get_put_same r s f]
theorem get_put_other : ∀ (fs : FS) (s u : ByteArray) (f : Fl), u ≠ s → get (put fs s f) u = get fs u
  | [], s, u, f, h => by simp [put, get, Ne.symm h]
  | (t, g) :: r, s, u, f, h => by
    unfold put
    by_cases h1 : t = s
    · rw [if_pos h1]; subst h1; simp [get, Ne.symm h]
    · rw [if_neg h1]
      split
      · simp [get, Ne.symm h]
      · simp only [get]; rw [get_put_other r s u f h]
theorem get_drop_other : ∀ (fs : FS) (s u : ByteArray), u ≠ s → get (drop fs s) u = get fs u
  | [], s, u, h => rfl
  | (t, g) :: r, s, u, h => by
    unfold drop
    by_cases h1 : t = s
    · rw [if_pos h1]; subst h1; simp [get, Ne.symm h]
    · rw [if_neg h1]; simp only [get]; rw [get_drop_other r s u h]
theorem get_low : ∀ (fs : FS) (s : ByteArray), (∀ p ∈ fs, ltB s p.1 = true) → get fs s = none
  | [], _, _ => rfl
  | (t, g) :: r, s, h => by
    have h1 := h (t, g) (by simp)
    unfold get
    rw [if_neg (Ne.symm (ltB_ne h1))]
    exact get_low r s fun p hp => h p (by simp [hp])
theorem get_drop_same : ∀ (fs : FS) (s : ByteArray), Sorted fs → get (drop fs s) s = none
  | [], s, _ => rfl
  | (t, g) :: r, s, h => by
    obtain ⟨h1, h2⟩ := List.pairwise_cons.1 h
    unfold drop
    by_cases h3 : t = s
    · rw [if_pos h3]; subst h3; exact get_low r t h1
    · rw [if_neg h3]; simp only [get]; rw [if_neg h3]; exact get_drop_same r s h2
theorem mem_put : ∀ (fs : FS) (s : ByteArray) (f : Fl) (p : ByteArray × Fl), p ∈ put fs s f → p = (s, f) ∨ p ∈ fs
  | [], s, f, p, h => by simp [put] at h; exact .inl h
  | (t, g) :: r, s, f, p, h => by
    unfold put at h
    split at h
    · simp at h; rcases h with h | h
      · exact .inl h
      · exact .inr (by simp [h])
    · split at h
      · simp at h; rcases h with h | h | h
        · exact .inl h
        · exact .inr (by simp [h])
        · exact .inr (by simp [h])
      · simp at h; rcases h with h | h
        · exact .inr (by simp [h])
        · rcases mem_put r s f p h with h1 | h1
          · exact .inl h1
          · exact .inr (by simp [h1])
theorem mem_drop : ∀ (fs : FS) (s : ByteArray) (p : ByteArray × Fl), p ∈ drop fs s → p ∈ fs
  | [], s, p, h => by simp [drop] at h
  | (t, g) :: r, s, p, h => by
    unfold drop at h
    split at h
    · simp [h]
    · simp at h; rcases h with h | h
      · simp [h]
      · simp [mem_drop r s p h]
theorem Sorted.put : ∀ (fs : FS) (s : ByteArray) (f : Fl), Sorted fs → Sorted (put fs s f)
  | [], s, f, _ => by simp [Sorted, Dsk.put]
  | (t, g) :: r, s, f, h => by
    obtain ⟨h1, h2⟩ := List.pairwise_cons.1 h
    unfold Dsk.put
    by_cases h3 : t = s
    · rw [if_pos h3]; subst h3; exact List.pairwise_cons.2 ⟨h1, h2⟩
    · rw [if_neg h3]
      by_cases h4 : ltB s t = true
      · rw [if_pos h4]
        refine List.pairwise_cons.2 ⟨fun p hp => ?_, h⟩
        simp at hp; rcases hp with rfl | hp
        · exact h4
        · exact ltB_trans h4 (h1 p hp)
      · rw [if_neg h4]
        refine List.pairwise_cons.2 ⟨fun p hp => ?_, Sorted.put r s f h2⟩
        rcases mem_put r s f p hp with rfl | hp
        · rcases ltB_total h3 with h5 | h5
          · exact h5
          · exact absurd h5 h4
        · exact h1 p hp
theorem Sorted.drop : ∀ (fs : FS) (s : ByteArray), Sorted fs → Sorted (drop fs s)
  | [], s, _ => by simp [Sorted, Dsk.drop]
  | (t, g) :: r, s, h => by
    obtain ⟨h1, h2⟩ := List.pairwise_cons.1 h
    unfold Dsk.drop
    split
    · exact h2
    · exact List.pairwise_cons.2 ⟨fun p hp => h1 p (mem_drop r s p hp), Sorted.drop r s h2⟩
theorem used_put : ∀ (fs : FS) (s : ByteArray) (f : Fl), Sorted fs → used (put fs s f) + lenO (get fs s) = used fs + f.b.length
  | [], s, f, _ => by simp [Dsk.put, used, get, lenO]
  | (t, g) :: r, s, f, h => by
    obtain ⟨h1, h2⟩ := List.pairwise_cons.1 h
    unfold Dsk.put
    by_cases h3 : t = s
    · rw [if_pos h3]; simp only [used, get]; rw [if_pos h3]; simp only [lenO]; omega
    · rw [if_neg h3]
      by_cases h4 : ltB s t = true
      · rw [if_pos h4]
        have := get_low r s fun p hp => ltB_trans h4 (h1 p hp)
        simp only [used, get]; rw [if_neg h3, this]; simp only [lenO]; omega
      · rw [if_neg h4]
        have := used_put r s f h2
        simp only [used, get]; rw [if_neg h3]; omega
theorem used_drop : ∀ (fs : FS) (s : ByteArray), used (drop fs s) + lenO (get fs s) = used fs
  | [], s => rfl
  | (t, g) :: r, s => by
    unfold Dsk.drop
    by_cases h3 : t = s
    · rw [if_pos h3]; simp only [used, get]; rw [if_pos h3]; simp only [lenO]; omega
    · rw [if_neg h3]
      have := used_drop r s
      simp only [used, get]; rw [if_neg h3]; omega
theorem len_put : ∀ (fs : FS) (s : ByteArray) (f : Fl), (put fs s f).length ≤ fs.length + 1
  | [], s, f => by simp [Dsk.put]
  | (t, g) :: r, s, f => by
    unfold Dsk.put
    split
    · simp
    · split
      · simp
      · simp; exact len_put r s f
theorem len_put_in : ∀ (fs : FS) (s : ByteArray) (f g : Fl), Sorted fs → get fs s = some g → (put fs s f).length = fs.length
  | [], s, f, g, _, h => by simp [get] at h
  | (t, g') :: r, s, f, g, h0, h => by
    obtain ⟨h1, h2⟩ := List.pairwise_cons.1 h0
    unfold Dsk.put
    by_cases h3 : t = s
    · rw [if_pos h3]; simp
    · rw [if_neg h3]
      unfold get at h
      rw [if_neg h3] at h
      by_cases h4 : ltB s t = true
      · have := get_low r s fun p hp => ltB_trans h4 (h1 p hp)
        rw [this] at h; cases h
      · rw [if_neg h4]; simp; exact len_put_in r s f g h2 h
theorem len_drop : ∀ (fs : FS) (s : ByteArray), (drop fs s).length ≤ fs.length
  | [], s => by simp [Dsk.drop]
  | (t, g) :: r, s => by
    unfold Dsk.drop
    split
    · simp
    · simp; exact len_drop r s
theorem get_mem : ∀ {fs : FS} {s : ByteArray} {f : Fl}, get fs s = some f → (s, f) ∈ fs
  | [], s, f, h => by simp [get] at h
  | (t, g) :: r, s, f, h => by
    unfold get at h
    split at h
    · rename_i e; cases h; subst e; simp
    · simp [get_mem h]
theorem mem_get : ∀ {fs : FS} {s : ByteArray} {f : Fl}, Sorted fs → (s, f) ∈ fs → get fs s = some f
  | [], s, f, _, h => by simp at h
  | (t, g) :: r, s, f, h0, h => by
    obtain ⟨h1, h2⟩ := List.pairwise_cons.1 h0
    unfold get
    simp at h
    rcases h with ⟨rfl, rfl⟩ | h
    · rw [if_pos rfl]
    · rw [if_neg (ltB_ne (h1 _ h))]; exact mem_get h2 h
theorem len_le : ∀ {fs : FS} {s : ByteArray} {f : Fl}, get fs s = some f → f.b.length ≤ used fs
  | [], s, f, h => by simp [get] at h
  | (t, g) :: r, s, f, h => by
    unfold get at h
    unfold used
    split at h
    · cases h; omega
    · have := len_le h; omega
/-- The names, rising. -/
def names (fs : FS) : List (List UInt8) := fs.map fun p => p.1.data.toList
theorem names_lt {fs : FS} (h : Sorted fs) : (names fs).Pairwise fun a b => a < b := by
  unfold names
  rw [List.pairwise_map]
  exact h.imp fun {a b} hab => by unfold ltB at hab; simpa using hab
theorem names_nodup {fs : FS} (h : Sorted fs) : (names fs).Nodup := (names_lt h).imp fun {a b} hab e => by subst e; exact List.lt_irrefl _ hab
theorem names_sort {fs : FS} (h : Sorted fs) : (names fs).mergeSort leB = names fs := by
  refine List.mergeSort_of_pairwise ((names_lt h).imp fun {a b} hab => ?_)
  simp only [leB, decide_eq_true_eq]
  exact List.le_of_lt hab
theorem mem_names : ∀ (fs : FS) (x : List UInt8), x ∈ names fs ↔ (get fs ⟨x.toArray⟩).isSome = true
  | [], x => by simp [names, get]
  | (t, g) :: r, x => by
    have ih := mem_names r x
    unfold names at ih ⊢
    simp only [List.map_cons, List.mem_cons, get]
    by_cases h : t = ⟨x.toArray⟩
    · rw [if_pos h, h]; simp
    · rw [if_neg h, ih]
      constructor
      · rintro (h1 | h1)
        · exact absurd (str_ext (by simpa using h1.symm)) h
        · exact h1
      · exact .inr
/-- The state. -/
structure St where
  quota : Int
  fs : FS
  steps : Nat
  armed : Option Nat
  off : Bool
structure Ok (S : St) : Prop where
  q0 : 0 ≤ S.quota
  qm : S.quota ≤ 9223372036854775807
  sorted : Sorted S.fs
  few : S.fs.length ≤ S.steps
  low : S.steps ≤ 1000000000
  fit : (used S.fs : Int) ≤ S.quota
  sum : used S.fs ≤ 1000000000000
  file : ∀ s f, get S.fs s = some f → f.sure ≤ f.b.length ∧ (∀ x ∈ f.b, x < 256) ∧ f.b.length ≤ 8388608 ∧ 0 < s.size ∧ s.size ≤ 128
  arm : ∀ k, S.armed = some k → k < 9223372036854775808
end Go.Proofs.Ytfgbaigpmhnoaaa.Dsk

/- disk: how it lies in memory. -/
namespace Go.Proofs.Ytfgbaigpmhnoaaa
open Go.RowKit Go.BigFrame Go.Maps
open Dsk (Fl St Ok get put drop used)

def bvs (l : List Nat) : List Value := l.map fun (x : Nat) => Value.int .u8 (x : Int)
theorem bvs_len (l : List Nat) : (bvs l).length = l.length := by simp [bvs]
theorem bvs_app (l m : List Nat) : bvs (l ++ m) = bvs l ++ bvs m := by simp [bvs]
def listD (d : Nat → Nat) (n : Nat) : List Nat := (List.range n).map d
theorem listD_len (d : Nat → Nat) (n : Nat) : (listD d n).length = n := by simp [listD]
theorem cells_bytes (d : Nat → Nat) (n : Nat) : cells d n = bvs (listD d n) := by simp [cells, bvs, listD]
theorem listD_lt {d : Nat → Nat} {n : Nat} (h : ∀ i, d i < 256) : ∀ x ∈ listD d n, x < 256 := by
  intro x hx
  simp [listD] at hx
  obtain ⟨i, _, rfl⟩ := hx
  exact h i
/-- A text as a map's key. -/
def kS (s : ByteArray) : Lit := .string s.data.toList
theorem kS_inj {s t : ByteArray} (h : kS s = kS t) : s = t := by
  unfold kS at h
  injection h with h
  exact str_ext h
theorem keyStr : Keyed Try.prog 9 := string_keyed Try.underlying9
theorem kS_key (s : ByteArray) : WideAt.IsKeyLit (kS s) := by unfold kS; exact ⟨⟩
/-- How a pointer to a file reads: its block. -/
def ptrElem (v : Value) : Option (DataW Unit × List MemPlace) := match v with
  | .pointer (some ⟨b, 0, none⟩) => some (.lit (.int .i64 (b : Int)), [])
  | .pointer none => some (.nil, [])
  | _ => none
theorem ptrElem_inv {v : Value} {z : DataW Unit × List MemPlace} (h : ptrElem v = some z) : (∃ b : Nat, v = .pointer (some ⟨b, 0, none⟩) ∧ z = (.lit (.int .i64 (b : Int)), [])) ∨ (v = .pointer none ∧ z = (.nil, [])) := by
  unfold ptrElem at h
  split at h
  · cases h; exact .inl ⟨_, rfl, rfl⟩
  · cases h; exact .inr ⟨rfl, rfl⟩
  · cases h
theorem zeroPtr (w : World) : (zeroValue 62).run Try.prog w = .ok (.pointer none) w := by kernel_rfl
/-- What a block is for. -/
inductive Role where
  | none
  | disk
  | map
  | arm
  | file (s : ByteArray)
  | row (s : ByteArray)
structure FileAt (w : World) (base : Nat) (ro : Nat → Role) (s : ByteArray) (fb : Nat) (v : Value) (f : Fl) : Prop where
  rfb : ro fb = .file s
  blk : w.heap[fb]? = some (.cells #[v, .int .i64 (f.sure : Int), .bool f.ever] 64 (0, 0))
  row : w.ownsRow base 5 1 v f.b.length (bvs f.b)
  rrow : ∀ g, v.ownBlock = some g → ro g = .row s
def ArmAt (w : World) (ro : Nat → Role) (av : Value) (a : Option Nat) : Prop :=
  (a = none ∧ av = .pointer none) ∨ ∃ k ab, a = some k ∧ av = .pointer (some ⟨ab, 0, none⟩) ∧ ro ab = .arm ∧ w.heap[ab]? = some (.cells #[.int .i64 (k : Int)] 3 (0, 0))
def diskCells (mb : Nat) (av : Value) (S : St) : Array Value := #[.int .i64 S.quota, .map (some mb), .int .i64 (used S.fs : Int), .int .i64 (S.steps : Int), av, .bool S.off]
structure DiskIn (w : World) (base db mb n : Nat) (D : DataW Unit) (av : Value) (ro : Nat → Role) (S : St) : Prop where
  blk : w.heap[db]? = some (.cells (diskCells mb av S) 58 (0, 0))
  own : w.ownsMap Try.prog 9 ptrElem mb n D
  bnd : n ≤ S.steps
  rdb : ro db = .disk
  rmb : ro mb = .map
  old : ∀ b, ro b ≠ .none → base ≤ b ∧ b < w.heap.size
  has : ∀ s, Maps.has D (kS s) = (get S.fs s).isSome
  arm : ArmAt w ro av S.armed
  file : ∀ s f, get S.fs s = some f → ∃ fb v, D.atKey (kS s) .nil = .lit (.int .i64 ((fb : Nat) : Int)) ∧ FileAt w base ro s fb v f
  ok : Ok S
def DiskAt (w : World) (base db : Nat) (ro : Nat → Role) (S : St) : Prop := ∃ mb n D av, DiskIn w base db mb n D av ro S
/-- Which blocks are the disk's. -/
def Own (ro : Nat → Role) (b : Nat) : Prop := ro b ≠ .none
theorem FileAt.ch {w w' : World} {base fb : Nat} {ro : Nat → Role} {s : ByteArray} {v : Value} {f : Fl} {M : Nat → Prop} (h : FileAt w base ro s fb v f) (hc : Ch w w' M) (hm : ∀ b, ro b = .file s ∨ ro b = .row s → ¬ M b) : FileAt w' base ro s fb v f :=
  ⟨h.rfb, hc.heap h.blk (hm _ (.inl h.rfb)), hc.own h.row fun b hb => hm _ (.inr (h.rrow b hb)), h.rrow⟩
theorem ArmAt.ch {w w' : World} {ro : Nat → Role} {av : Value} {a : Option Nat} {M : Nat → Prop} (h : ArmAt w ro av a) (hc : Ch w w' M) (hm : ∀ b, ro b = .arm → ¬ M b) : ArmAt w' ro av a := by
  rcases h with h | ⟨k, ab, h1, h2, h3, h4⟩
  · exact .inl h
  · exact .inr ⟨k, ab, h1, h2, h3, hc.heap h4 (hm _ h3)⟩
theorem own_map_block {w w' : World} {mb n : Nat} {D : DataW Unit} (h : w.ownsMap Try.prog 9 ptrElem mb n D) (hb : w'.heap[mb]? = w.heap[mb]?) : w'.ownsMap Try.prog 9 ptrElem mb n D := by
  obtain ⟨es, c, h1, h3⟩ := h
  exact ⟨es, c, hb.trans h1, h3⟩
theorem own_map_ch {w w' : World} {mb n : Nat} {D : DataW Unit} {M : Nat → Prop} (h : w.ownsMap Try.prog 9 ptrElem mb n D) (hc : Ch w w' M) (hm : ¬ M mb) : w'.ownsMap Try.prog 9 ptrElem mb n D :=
  own_map_block h (hc.block mb h.lt hm)
/-- The disk stands while other blocks turn. -/
theorem DiskIn.ch {w w' : World} {base db mb n : Nat} {D : DataW Unit} {av : Value} {ro : Nat → Role} {S : St} {M : Nat → Prop} (h : DiskIn w base db mb n D av ro S) (hc : Ch w w' M) (hm : ∀ b, Own ro b → ¬ M b) : DiskIn w' base db mb n D av ro S := by
  have nn : ∀ b r, ro b = r → r ≠ .none → ¬ M b := fun b r e hr => hm b (by unfold Own; rw [e]; exact hr)
  refine ⟨hc.heap h.blk (nn _ _ h.rdb (by simp)), own_map_ch h.own hc (nn _ _ h.rmb (by simp)), h.bnd, h.rdb, h.rmb, fun b hb => ⟨(h.old b hb).1, Nat.lt_of_lt_of_le (h.old b hb).2 hc.size⟩, h.has, h.arm.ch hc (fun b hb => nn _ _ hb (by simp)), ?_, h.ok⟩
  intro s f hf
  obtain ⟨fb, v, h1, h2⟩ := h.file s f hf
  exact ⟨fb, v, h1, h2.ch hc fun b hb => by rcases hb with hb | hb <;> exact nn _ _ hb (by simp)⟩
theorem DiskAt.ch {w w' : World} {base db : Nat} {ro : Nat → Role} {S : St} {M : Nat → Prop} (h : DiskAt w base db ro S) (hc : Ch w w' M) (hm : ∀ b, Own ro b → ¬ M b) : DiskAt w' base db ro S := by
  obtain ⟨mb, n, D, av, h⟩ := h
  exact ⟨mb, n, D, av, h.ch hc hm⟩
theorem DiskAt.below {w w' : World} {base db : Nat} {ro : Nat → Role} {S : St} (h : DiskAt w base db ro S) (hb : Below w.heap.size w w') : DiskAt w' base db ro S := by
  obtain ⟨mb, n, D, av, h⟩ := h
  exact ⟨mb, n, D, av, h.ch (Ch.of_below hb (fun b => w.heap.size ≤ b) (fun k _ hk => hk)) fun b hb hM => by have := (h.old b hb).2; omega⟩
/-- Its own cells, and what it is armed with, turn: no file does. -/
theorem DiskIn.flip {w w' : World} {base db mb n : Nat} {D : DataW Unit} {av av' : Value} {ro ro' : Nat → Role} {S S' : St} {M : Nat → Prop} (h : DiskIn w base db mb n D av ro S) (hc : Ch w w' M)
    (hm : ∀ b, M b → b < w.heap.size → ro b = .disk ∨ ro b = .arm ∨ ro b = .none) (hr : ∀ b, (ro b ≠ .none ∧ ro b ≠ .arm) → ro' b = ro b) (hn : ∀ b, ro' b ≠ .none → base ≤ b ∧ b < w'.heap.size)
    (hb : w'.heap[db]? = some (.cells (diskCells mb av' S') 58 (0, 0))) (hfs : S'.fs = S.fs) (hst : S.steps ≤ S'.steps) (ha : ArmAt w' ro' av' S'.armed) (hok : Ok S') : DiskIn w' base db mb n D av' ro' S' := by
  have nn : ∀ b r, ro b = r → r ≠ .none → r ≠ .disk → r ≠ .arm → ¬ M b := fun b r e h1 h2 h3 hM => by
    rcases hm b hM (h.old b (by rw [e]; exact h1)).2 with h4 | h4 | h4
    · exact h2 (e.symm.trans h4)
    · exact h3 (e.symm.trans h4)
    · exact h1 (e.symm.trans h4)
  have rr : ∀ b r, ro b = r → r ≠ .none → r ≠ .arm → ro' b = r := fun b r e h1 h3 => by rw [hr b ⟨by rw [e]; exact h1, by rw [e]; exact h3⟩, e]
  refine ⟨hb, own_map_ch h.own hc (nn _ _ h.rmb (by simp) (by simp) (by simp)), Nat.le_trans h.bnd hst, rr _ _ h.rdb (by simp) (by simp), rr _ _ h.rmb (by simp) (by simp), hn, by rw [hfs]; exact h.has, ha, ?_, hok⟩
  rw [hfs]
  intro s f hf
  obtain ⟨fb, v, h1, h2⟩ := h.file s f hf
  have h3 := h2.ch hc fun b hb => by rcases hb with hb | hb <;> exact nn _ _ hb (by simp) (by simp) (by simp)
  exact ⟨fb, v, h1, rr _ _ h3.rfb (by simp) (by simp), h3.blk, h3.row, fun g hg => rr _ _ (h3.rrow g hg) (by simp) (by simp)⟩
/-- One name's file turns (comes, goes, or has other bytes). -/
theorem DiskIn.turn {w w' : World} {base db mb n n' : Nat} {D D' : DataW Unit} {av av' : Value} {ro ro' : Nat → Role} {S S' : St} {M : Nat → Prop} (h : DiskIn w base db mb n D av ro S) (s : ByteArray) (hc : Ch w w' M)
    (hm : ∀ b t, t ≠ s → ro b = .file t ∨ ro b = .row t → ¬ M b) (hr : ∀ b, (ro b = .disk ∨ ro b = .map ∨ ∃ t, t ≠ s ∧ (ro b = .file t ∨ ro b = .row t)) → ro' b = ro b) (hn : ∀ b, ro' b ≠ .none → base ≤ b ∧ b < w'.heap.size)
    (hb : w'.heap[db]? = some (.cells (diskCells mb av' S') 58 (0, 0))) (hown : w'.ownsMap Try.prog 9 ptrElem mb n' D') (hbnd : n' ≤ S'.steps)
    (hD : ∀ t, t ≠ s → Maps.has D' (kS t) = Maps.has D (kS t) ∧ D'.atKey (kS t) .nil = D.atKey (kS t) .nil) (hg : ∀ t, t ≠ s → get S'.fs t = get S.fs t)
    (hs : Maps.has D' (kS s) = (get S'.fs s).isSome) (hf : ∀ f, get S'.fs s = some f → ∃ fb v, D'.atKey (kS s) .nil = .lit (.int .i64 ((fb : Nat) : Int)) ∧ FileAt w' base ro' s fb v f)
    (ha : ArmAt w' ro' av' S'.armed) (hok : Ok S') : DiskIn w' base db mb n' D' av' ro' S' := by
  refine ⟨hb, hown, hbnd, by rw [hr _ (.inl h.rdb), h.rdb], by rw [hr _ (.inr (.inl h.rmb)), h.rmb], hn, fun t => ?_, ha, fun t f hft => ?_, hok⟩
  · by_cases e : t = s
    · subst e; exact hs
    · rw [(hD t e).1, hg t e]; exact h.has t
  · by_cases e : t = s
    · subst e; exact hf f hft
    · rw [hg t e] at hft
      obtain ⟨fb, v, h1, h2⟩ := h.file t f hft
      have h3 := h2.ch hc fun b hb => hm b t e hb
      exact ⟨fb, v, by rw [(hD t e).2]; exact h1, (hr _ (.inr (.inr ⟨t, e, .inl h3.rfb⟩))).trans h3.rfb, h3.blk, h3.row, fun g hg' => (hr _ (.inr (.inr ⟨t, e, .inr (h3.rrow g hg')⟩))).trans (h3.rrow g hg')⟩
/-- What a call on the disk leaves. -/
def Sub (w : World) (ro ro' : Nat → Role) : Prop := ∀ b, b < w.heap.size → Own ro' b → Own ro b
theorem Sub.refl (w : World) (ro : Nat → Role) : Sub w ro ro := fun _ _ h => h
theorem Sub.trans {w w1 : World} {ro ro1 ro2 : Nat → Role} (h : Sub w ro ro1) (h2 : Sub w1 ro1 ro2) (hz : w.heap.size ≤ w1.heap.size) : Sub w ro ro2 := fun b hb ho => h b hb (h2 b (Nat.lt_of_lt_of_le hb hz) ho)
structure Left (w w' : World) (base db : Nat) (ro : Nat → Role) (S' : St) (ro' : Nat → Role) : Prop where
  disk : DiskAt w' base db ro' S'
  sub : Sub w ro ro'
  ch : Ch w w' (Own ro)
theorem Left.trans {w w1 w2 : World} {base db : Nat} {ro ro1 ro2 : Nat → Role} {S1 S2 : St} (h : Left w w1 base db ro S1 ro1) (h2 : Left w1 w2 base db ro1 S2 ro2) : Left w w2 base db ro S2 ro2 :=
  ⟨h2.disk, h.sub.trans h2.sub h.ch.size, h.ch.trans h2.ch h.sub⟩
set_option maxRecDepth 100000 in
/-- The look-up of a name. -/
theorem DiskIn.look {w : World} {base db mb n : Nat} {D : DataW Unit} {av : Value} {ro : Nat → Role} {S : St} (h : DiskIn w base db mb n D av ro S) (s : ByteArray) (hs : s.size ≤ maxLen) :
    (get S.fs s = none ∧ (Instr.lookup 55 (.map (some mb)) (.string s) false).run Try.prog w = .ok (.pointer none) w) ∨
    ∃ f fb v, get S.fs s = some f ∧ (Instr.lookup 55 (.map (some mb)) (.string s) false).run Try.prog w = .ok (.pointer (some ⟨fb, 0, none⟩)) w ∧ D.atKey (kS s) .nil = .lit (.int .i64 ((fb : Nat) : Int)) ∧ FileAt w base ro s fb v f := by
  obtain ⟨v, ps, hrun, hv⟩ := h.own.lookup keyStr Try.underlying55 (zeroPtr w) (zd := .nil) (zp := []) rfl (Go.WideMaps.keyOf_string_mk Try.underlying9 hs)
  have hh := h.has s
  cases hg : get S.fs s with
  | none =>
    left
    refine ⟨rfl, ?_⟩
    rw [hg] at hh
    have hz : D.atKey (kS s) .nil = .nil := atKey_of_not_has hh _
    rcases ptrElem_inv hv with ⟨b, rfl, e⟩ | ⟨rfl, _⟩
    · have := congrArg Prod.fst e
      dsimp only at this
      unfold kS at hz
      rw [hz] at this; cases this
    · exact hrun
  | some f =>
    right
    obtain ⟨fb, v', h1, h2⟩ := h.file s f hg
    refine ⟨f, fb, v', rfl, ?_, h1, h2⟩
    rcases ptrElem_inv hv with ⟨b, rfl, e⟩ | ⟨rfl, e⟩
    · have := congrArg Prod.fst e
      dsimp only at this
      unfold kS at h1
      rw [h1] at this
      have : (fb : Int) = (b : Int) := by injection this with this; injection this
      obtain rfl : fb = b := by omega
      exact hrun
    · have := congrArg Prod.fst e
      dsimp only at this
      unfold kS at h1
      rw [h1] at this; cases this
end Go.Proofs.Ytfgbaigpmhnoaaa
