/- Ranges of one bound; what pairs of bounds allow. -/
import Derived.Test.YtjckcdemkpmheaaDoorRngAh
namespace Go.Proofs.YtjckcdemkpmheaaDoor
open Go.RowKit Go.BigFrame
open Ver (cmpV BL)

theorem rng_one (w : World) (g1 g2 : Nat) (o : Nat) (s : ByteArray) (h1 : w.heap[g1]? = some (.cells #[.int .u8 (o : Int), .string s] 45)) (h2 : w.heap[g2]? = some (.cells #[.slice (some ⟨g1, 0, none⟩) 1 1] 31)) :
    RngAt w (.slice (some ⟨g2, 0, none⟩) 1 1) [[(o, s)]] := by
  refine ⟨[.slice (some ⟨g1, 0, none⟩) 1 1], reads_block (xs := [.slice (some ⟨g1, 0, none⟩) 1 1]) h2 (by simp), rfl, fun k u x hu hx => ?_⟩
  match k, hu, hx with
  | 0, hu, hx =>
    simp at hu hx
    subst hu; subst hx
    exact ⟨_, _, rfl, Nat.le_refl _, by decide, (fun h => by cases h), fun _ => ⟨_, rfl, block_lt h1, trivial, fun j u hu => row_cells h1 j u (by simpa [rowCells, bdEnc] using hu)⟩⟩
def OnePost (o : Nat) (s : ByteArray) (w : World) (e : Ending) (w' : World) : Prop := ∃ u, e = .returned u ∧ RngAt w' u [[(o, s)]] ∧ Below w.heap.size w w'
set_option maxRecDepth 100000 in
set_option maxHeartbeats 400000 in
theorem one_any (o : Nat) (s : ByteArray) (w : World) : Calls Tryd.prog 21 #[.int .u8 (o : Int), .string s] w (OnePost o s w) := by
  have hb := ((Below.refl w.heap.size w).alloc (Nat.le_refl _) (.cells #[.int .u8 (o : Int), .string s] 45)).alloc (by simp) (.cells #[.slice (some ⟨w.heap.size, 0, none⟩) 1 1] 31)
  go_enter Tryd.func21, Tryd.ntmps21
  go_wp2
  go_ret
  refine ⟨_, rfl, rng_one _ w.heap.size (w.heap.size + 1) o s ?_ ?_, hb⟩
  · have h1 := heap_alloc_new w (.cells #[.int .u8 (o : Int), .string s] 45)
    exact (((Below.refl _ _).alloc (Nat.le_refl _) _).block w.heap.size (by simp)).trans h1
  · have h2 := heap_alloc_new (w.alloc (.cells #[.int .u8 (o : Int), .string s] 45)) (.cells #[.slice (some ⟨w.heap.size, 0, none⟩) 1 1] 31)
    simpa using h2
def bndOf (o : Nat) (s : ByteArray) : Bd := (o, if o = 0 then ⟨#[]⟩ else s)
set_option maxRecDepth 100000 in
set_option maxHeartbeats 400000 in
theorem bnd_any (o : Nat) (s : ByteArray) (w : World) : Calls Tryd.prog 22 #[.int .u8 (o : Int), .string s] w fun e w' => e = .returned (.agg #[.int .u8 (o : Int), .string (bndOf o s).2]) ∧ Below w.heap.size w w' := by
  by_cases h : o = 0
  · subst h
    go_enter Tryd.func22, Tryd.ntmps22
    go_wp2
    refine bodyPost_ret (v := .agg #[.int .u8 0, .string ⟨#[]⟩]) (by simp [results, Tryd.results22, go_sem]) rfl ⟨rfl, ?_⟩
    exact (Below.refl w.heap.size w).alloc (Nat.le_refl _) _
  · have hne : ((o : Int) == 0) = false := by rw [beq_eq_false_iff_ne]; omega
    have he : (bndOf o s).2 = s := by unfold bndOf; rw [if_neg h]
    rw [he]
    clear h
    go_enter Tryd.func22, Tryd.ntmps22
    go_wp2
    refine bodyPost_ret (v := .agg #[.int .u8 (o : Int), .string s]) (by simp [results, Tryd.results22, go_sem]) rfl ⟨rfl, ?_⟩
    exact (Below.refl w.heap.size w).alloc (Nat.le_refl _) _
/-- What a range of rows allows that may be. -/
theorem allow_one (b : Bd) (v : ByteArray) (hb : mayB b = true) (hv : okS v = true) : allowR [[b]] v = opV b.1 (verOf v) (verOf b.2) := by
  have h1 : mayR [[b]] = true := by simp [mayR, mayRow, hb]
  unfold allowR allowsB rowAll bars
  rw [h1, hv]
  simp
theorem allow_two (b c : Bd) (v : ByteArray) (hb : mayB b = true) (hc : mayB c = true) (hv : okS v = true) : allowR [[b, c]] v = (allowR [[b]] v && allowR [[c]] v) := by
  rw [allow_one b v hb hv, allow_one c v hc hv]
  have h1 : mayR [[b, c]] = true := by simp [mayR, mayRow, hb, hc]
  unfold allowR allowsB rowAll bars
  rw [h1, hv]
  simp
theorem allow_rows (b c : Bd) (v : ByteArray) (hb : mayB b = true) (hc : mayB c = true) (hv : okS v = true) : allowR [[b], [c]] v = (allowR [[b]] v || allowR [[c]] v) := by
  rw [allow_one b v hb hv, allow_one c v hc hv]
  have h1 : mayR [[b], [c]] = true := by simp [mayR, mayRow, hb, hc]
  unfold allowR allowsB rowAll bars
  rw [h1, hv]
  simp
theorem may_op (o : Nat) (s : ByteArray) (h1 : 1 ≤ o) (h7 : o ≤ 7) (hs : okS s = true) : mayB (o, s) = true := by
  rw [mayB_pos o s (by omega), hs, decide_eq_true h7]; rfl
theorem may_bnd (o : Nat) (s : ByteArray) (h7 : o ≤ 7) (hs : okS s = true) : mayB (bndOf o s) = true := by
  unfold bndOf
  by_cases h : o = 0
  · subst h; rw [if_pos rfl, mayB_zero]; rfl
  · rw [if_neg h]; exact may_op o s (by omega) h7 hs
theorem brow_of (w : World) (g : Nat) (row : List Bd) (h : w.heap[g]? = some (.cells (rowCells row).toArray 45)) (hn : row.length ≤ 100) : BRow w AllB (.slice (some ⟨g, 0, none⟩) row.length row.length) row :=
  ⟨_, _, rfl, Nat.le_refl _, by unfold maxLen; omega, (fun h => by cases h), fun _ => ⟨_, rfl, block_lt h, trivial, fun j u hu => row_cells h j u (by simpa using hu)⟩⟩
theorem rng_two (w : World) (g1 g2 : Nat) (a b : Bd) (h1 : w.heap[g1]? = some (.cells #[.int .u8 (a.1 : Int), .string a.2, .int .u8 (b.1 : Int), .string b.2] 45)) (h2 : w.heap[g2]? = some (.cells #[.slice (some ⟨g1, 0, none⟩) 2 2] 31)) :
    RngAt w (.slice (some ⟨g2, 0, none⟩) 1 1) [[a, b]] := by
  refine ⟨[.slice (some ⟨g1, 0, none⟩) 2 2], reads_block (xs := [.slice (some ⟨g1, 0, none⟩) 2 2]) h2 (by simp), rfl, fun k u x hu hx => ?_⟩
  match k, hu, hx with
  | 0, hu, hx =>
    simp at hu hx
    subst hu; subst hx
    exact brow_of w g1 [a, b] h1 (by simp)
theorem rng_rows (w : World) (g1 g2 g3 : Nat) (a b : Bd) (h1 : w.heap[g1]? = some (.cells #[.int .u8 (a.1 : Int), .string a.2] 45)) (h2 : w.heap[g2]? = some (.cells #[.int .u8 (b.1 : Int), .string b.2] 45))
    (h3 : w.heap[g3]? = some (.cells #[.slice (some ⟨g1, 0, none⟩) 1 1, .slice (some ⟨g2, 0, none⟩) 1 1] 31)) :
    RngAt w (.slice (some ⟨g3, 0, none⟩) 2 2) [[a], [b]] := by
  refine ⟨[.slice (some ⟨g1, 0, none⟩) 1 1, .slice (some ⟨g2, 0, none⟩) 1 1], reads_block (xs := [.slice (some ⟨g1, 0, none⟩) 1 1, .slice (some ⟨g2, 0, none⟩) 1 1]) h3 (by simp), rfl, fun k u x hu hx => ?_⟩
  match k, hu, hx with
  | 0, hu, hx =>
    simp at hu hx
    subst hu; subst hx
    exact brow_of w g1 [a] h1 (by simp)
  | 1, hu, hx =>
    simp at hu hx
    subst hu; subst hx
    exact brow_of w g2 [b] h2 (by simp)
theorem two_new (w : World) (A B : Obj) : ((w.alloc A).alloc B).heap[w.heap.size]? = some A ∧ ((w.alloc A).alloc B).heap[w.heap.size + 1]? = some B :=
  ⟨(((Below.refl _ _).alloc (Nat.le_refl _) B).block w.heap.size (by simp)).trans (heap_alloc_new w A), by have := heap_alloc_new (w.alloc A) B; simpa using this⟩
theorem three_new (w : World) (A B C : Obj) : (((w.alloc A).alloc B).alloc C).heap[w.heap.size]? = some A ∧ (((w.alloc A).alloc B).alloc C).heap[w.heap.size + 1]? = some B ∧ (((w.alloc A).alloc B).alloc C).heap[w.heap.size + 2]? = some C := by
  obtain ⟨h1, h2⟩ := two_new w A B
  have hb := (Below.refl ((w.alloc A).alloc B).heap.size ((w.alloc A).alloc B)).alloc (Nat.le_refl _) C
  refine ⟨(hb.block w.heap.size (by simp; omega)).trans h1, (hb.block (w.heap.size + 1) (by simp)).trans h2, ?_⟩
  have := heap_alloc_new ((w.alloc A).alloc B) C
  simpa using this
end Go.Proofs.YtjckcdemkpmheaaDoor
