/- files: trees, in plain maths. -/
import Derived.Lib.Hide
import Derived.Test.YtmcafiihicanfaaDoorProg
set_option linter.unusedVariables false
set_option linter.unusedSimpArgs false
namespace Go.Proofs.YtmcafiihicanfaaDoor
namespace Fil

/-- The entries of a directory: each one's name, its node (kind, data, entries), and those behind it. -/
inductive Es where
  | nil
  | cons (nm : ByteArray) (k : Nat) (d : ByteArray) (sub next : Es)
instance : Inhabited Es := ⟨.nil⟩
/-- A node. -/
structure Nd where
  k : Nat
  d : ByteArray
  es : Es
instance : Inhabited Nd := ⟨⟨0, ⟨#[]⟩, .nil⟩⟩
def Es.len : Es → Nat
  | .nil => 0
  | .cons _ _ _ _ n => n.len + 1
def Es.list : Es → List (ByteArray × Nd)
  | .nil => []
  | .cons nm k d s n => (nm, ⟨k, d, s⟩) :: n.list
theorem Es.list_len : ∀ e : Es, e.list.length = e.len
  | .nil => rfl
  | .cons _ _ _ _ n => by simp [Es.list, Es.len, n.list_len]
def Es.count : Es → Nat
  | .nil => 0
  | .cons _ _ _ s n => 1 + s.count + n.count
def Es.depth : Es → Nat
  | .nil => 0
  | .cons _ _ _ s n => max (1 + s.depth) n.depth
def Es.size : Es → Nat
  | .nil => 0
  | .cons _ _ d s n => d.size + s.size + n.size
def Nd.count (n : Nd) : Nat := 1 + n.es.count
def Nd.depth (n : Nd) : Nat := n.es.depth
def Nd.size (n : Nd) : Nat := n.d.size + n.es.size
/-- A name that an entry may have. -/
def badB (b : UInt8) : Bool := b == 47 || b == 0
def nameB (s : ByteArray) : Bool := decide (1 ≤ s.size) && decide (s.size ≤ 255) && decide (s ≠ ⟨#[46]⟩) && decide (s ≠ ⟨#[46, 46]⟩) && !s.data.toList.any badB
/-- Less, of texts. -/
def ltS (a b : ByteArray) : Bool := !(Op.bytesLess b.toList a.toList || (b.toList == a.toList))
/-- Names that rise from one on, each one that may be. -/
def namesB : ByteArray → Es → Bool
  | _, .nil => true
  | last, .cons nm _ _ _ n => ltS last nm && nameB nm && namesB nm n
/-- A node that may be, apart from those below it. -/
def okB (k : Nat) (d : ByteArray) (es : Es) : Bool :=
  if k = 1 ∨ k = 2 then decide (d.size ≤ 65536) && decide (es.len = 0)
  else if k = 3 then decide (1 ≤ d.size) && decide (d.size ≤ 255) && decide (es.len = 0) && !d.data.toList.any (· == 0)
  else if k = 4 then decide (d.size = 0) && namesB ⟨#[]⟩ es
  else false
def Es.may : Es → Bool
  | .nil => true
  | .cons _ k d s n => okB k d s && s.may && n.may
def Nd.may (n : Nd) : Bool := okB n.k n.d n.es && n.es.may
def Nd.right (n : Nd) : Bool := decide (n.count ≤ 4096) && decide (n.depth ≤ 32) && n.may
/-- What a node, reached from a tree's root, is handed as: its depth, its entry's name, itself. -/
structure Sp where
  dep : Nat
  nm : ByteArray
  n : Nd
instance : Inhabited Sp := ⟨⟨0, ⟨#[]⟩, default⟩⟩
/-- All nodes of entries that lie at a depth, each ahead of those below it. -/
def Es.flat : Nat → Es → List Sp
  | _, .nil => []
  | i, .cons nm k d s n => ⟨i, nm, ⟨k, d, s⟩⟩ :: (s.flat (i + 1) ++ n.flat i)
def Nd.flat (n : Nd) : List Sp := ⟨0, ⟨#[]⟩, n⟩ :: n.es.flat 1
theorem Es.flat_len : ∀ (e : Es) (i : Nat), (e.flat i).length = e.count
  | .nil, _ => rfl
  | .cons _ _ _ s n, i => by
    simp only [Es.flat, Es.count, List.length_cons, List.length_append, s.flat_len, n.flat_len]
    omega
theorem Nd.flat_len (n : Nd) : n.flat.length = n.count := by simp [Nd.flat, Nd.count, Es.flat_len]; omega
/-- The size of all that come. -/
def sizeL (l : List Sp) : Nat := (l.map fun x => x.n.d.size).sum
theorem sizeL_app (a b : List Sp) : sizeL (a ++ b) = sizeL a + sizeL b := by simp [sizeL]
theorem Es.flat_size : ∀ (e : Es) (i : Nat), sizeL (e.flat i) = e.size
  | .nil, _ => rfl
  | .cons _ _ d s n, i => by
    have h1 := s.flat_size (i + 1)
    have h2 := n.flat_size i
    have : sizeL (s.flat (i + 1) ++ n.flat i) = s.size + n.size := by rw [sizeL_app, h1, h2]
    simp only [Es.flat, Es.size]
    show d.size + sizeL (s.flat (i + 1) ++ n.flat i) = _
    rw [this]; omega
theorem Nd.flat_size (n : Nd) : sizeL n.flat = n.size := by
  show n.d.size + sizeL (n.es.flat 1) = _
  rw [Es.flat_size]; rfl
/-- The greatest depth of all that come. -/
def deepL (l : List Sp) : Nat := l.foldl (fun m x => max m x.dep) 0
theorem deepL_snoc (l : List Sp) (x : Sp) : deepL (l ++ [x]) = max (deepL l) x.dep := by simp [deepL]
theorem foldl_deep (l : List Sp) : ∀ m, l.foldl (fun m x => max m x.dep) m = max m (deepL l) := by
  induction l with
  | nil => intro m; simp [deepL]
  | cons x l ih => intro m; simp only [List.foldl_cons, deepL]; rw [ih, ih]; omega
theorem deepL_app (a b : List Sp) : deepL (a ++ b) = max (deepL a) (deepL b) := by
  unfold deepL
  rw [List.foldl_append, foldl_deep b]
  rfl
theorem deepL_cons (x : Sp) (l : List Sp) : deepL (x :: l) = max x.dep (deepL l) := by
  rw [show x :: l = [x] ++ l from rfl, deepL_app]
  simp [deepL]
theorem Es.flat_deep : ∀ (e : Es) (i : Nat), (e.depth = 0 ∧ deepL (e.flat (i + 1)) = 0) ∨ deepL (e.flat (i + 1)) = e.depth + i
  | .nil, _ => .inl ⟨rfl, rfl⟩
  | .cons nm k d s n, i => by
    have h1 := s.flat_deep (i + 1)
    have h2 := n.flat_deep i
    refine .inr ?_
    have e1 : deepL ((Es.cons nm k d s n).flat (i + 1)) = max (i + 1) (max (deepL (s.flat (i + 1 + 1))) (deepL (n.flat (i + 1)))) := by
      show deepL (_ :: (s.flat (i + 1 + 1) ++ n.flat (i + 1))) = _
      rw [deepL_cons, deepL_app]
    have e2 : (Es.cons nm k d s n).depth = max (1 + s.depth) n.depth := rfl
    rw [e1, e2]
    omega
theorem Nd.flat_deep (n : Nd) : deepL n.flat = n.depth := by
  unfold Nd.flat Nd.depth
  rw [deepL_cons]
  have := n.es.flat_deep 0
  rw [Nat.zero_add] at this
  show max 0 _ = _
  omega
/-- Is each node that comes one that may be? -/
def Sp.ok (x : Sp) : Bool := okB x.n.k x.n.d x.n.es
theorem Es.flat_may : ∀ (e : Es) (i : Nat), (e.flat i).all Sp.ok = e.may
  | .nil, _ => rfl
  | .cons _ k d s n, i => by
    simp only [Es.flat, Es.may, List.all_cons, List.all_append, s.flat_may, n.flat_may]
    unfold Sp.ok
    rw [Bool.and_assoc]
theorem Nd.flat_may (n : Nd) : n.flat.all Sp.ok = n.may := by
  simp only [Nd.flat, Nd.may, List.all_cons, Es.flat_may]
  rfl
theorem deepL_le (l : List Sp) (m : Nat) : deepL l ≤ m ↔ ∀ x ∈ l, x.dep ≤ m := by
  induction l with
  | nil => simp [deepL]
  | cons x l ih => rw [deepL_cons]; simp [← ih]; omega
/-- A tree is not right where a beginning of what comes has something wrong. -/
theorem not_right {n : Nd} {pre : List Sp} (hp : pre <+: n.flat) (h : 4096 < pre.length ∨ ∃ x ∈ pre, 32 < x.dep ∨ x.ok = false) : n.right = false := by
  unfold Nd.right
  have hsub : ∀ x ∈ pre, x ∈ n.flat := fun x hx => hp.subset hx
  rcases h with h | ⟨x, hx, h | h⟩
  · have : pre.length ≤ n.count := by rw [← n.flat_len]; exact hp.length_le
    simp; intro h2; omega
  · have : ¬ n.depth ≤ 32 := fun hd => by
      rw [← n.flat_deep, deepL_le] at hd
      have := hd x (hsub x hx)
      omega
    simp [this]
  · have : n.may = false := by
      rw [← n.flat_may, List.all_eq_false]
      exact ⟨x, hsub x hx, by simp [h]⟩
    simp [this]
theorem is_right {n : Nd} (h1 : n.flat.length ≤ 4096) (h2 : ∀ x ∈ n.flat, x.dep ≤ 32 ∧ x.ok = true) : n.right = true := by
  unfold Nd.right
  rw [n.flat_len] at h1
  have h3 : n.depth ≤ 32 := by rw [← n.flat_deep, deepL_le]; exact fun x hx => (h2 x hx).1
  have h4 : n.may = true := by rw [← n.flat_may, List.all_eq_true]; exact fun x hx => (h2 x hx).2
  simp [h1, h3, h4]
end Fil
end Go.Proofs.YtmcafiihicanfaaDoor
