/- scan: ScanKnown: runs of letters about 32. -/
import Derived.Test.YtadlimfpcfdgcaaScnR
import Derived.Test.YtadlimfpcfdgcaaIvA
set_option linter.unusedVariables false
set_option linter.unusedSimpArgs false
namespace Go.Proofs.Ytadlimfpcfdgcaa
open Go Go.RowKit Go.BigFrame Go.Maps
open Scn (runOf wins winsTo firsts)
open Fil (Es Nd Sp)

theorem add_text (a b : ByteArray) (w : World) (h : a.size + b.size ≤ 1000) : ((fun v => Next.value v) <$> binOp BinOp.add 9 (.string a) (.string b)).run Try.prog w = .ok (.value (.string (a ++ b))) w := by
  have h1 : ¬ 9223372036854775807 < a.size + b.size := by omega
  simp [go_sem, h1]
theorem Reads.rowV {w : World} {B : Nat} {v : Value} {xs : List ByteArray} (h : Reads w B v (strs xs)) : ∀ (A : Option Addr) (n c : Nat), v = .slice A n c → 0 < xs.length → ∃ ad, A = some ad ∧ ad.block < B ∧ ∀ j u, (strs xs)[j]? = some u → w.cell? (ad.add j) = some u := by
  intro A n c e
  subst e
  exact h.row
inductive Kk
  | txt (l : List UInt8) | one | tx (n : Nat) | row | num (n : Int)
def RK (tc : ByteArray) : Kk → Value → World → Prop
  | .txt l, v, _ => v = .string (strOf l)
  | .one, v, _ => v = .string tc
  | .tx n, v, _ => ∃ s, v = .string s ∧ s.size ≤ n
  | .row, v, w => ∃ xs : List ByteArray, xs.length = 7 ∧ (∀ s ∈ xs, s.size ≤ 100) ∧ Reads w w.heap.size v (strs xs)
  | .num n, v, _ => v = .int .i64 n
theorem RK.below {tc : ByteArray} {k : Kk} {v : Value} {w w' : World} (h : RK tc k v w) (hb : Below w.heap.size w w') : RK tc k v w' := by
  cases k with
  | row => obtain ⟨xs, h1, h2, h3⟩ := h; exact ⟨xs, h1, h2, (Reads.below h3 hb).more hb.size⟩
  | txt l => exact h
  | one => exact h
  | tx n => exact h
  | num n => exact h
def kindsK : List Kk := [.one, .txt (List.replicate 32 48), .tx 33, .txt (List.replicate 32 48), .one, .tx 33, .one, .txt (List.replicate 32 48), .tx 33, .one, .tx 34, .txt (List.replicate 32 48), .txt (List.replicate 31 48), .one, .tx 32, .one, .txt (List.replicate 32 48), .txt (List.replicate 31 48), .tx 32, .txt (List.replicate 32 48), .txt (List.replicate 16 48), .one, .tx 17, .txt (List.replicate 32 48), .txt (List.replicate 16 48), .tx 33, .txt (List.replicate 32 48), .one, .tx 33, .txt (List.replicate 32 48), .tx 65, .row, .num 7, .num 0]
theorem lz_rep : lz = List.replicate 32 48 := by decide
theorem name_txt : strOf lz ++ ⟨#[45, 97]⟩ = strOf lt7 := by kernel_rfl
theorem scanAll_c (v : Value) (s : ByteArray) (w : World) (hv : BytAt w w.heap.size v s.data.toList) : Calls Try.prog 3 #[v] w fun e w' => e = .returned (.bool true) ∧ Below w.heap.size w w' := scanAll_walk v _ w hv
theorem byte_conv (i : Nat) (hi : i < 256) (w : World) : (convert 22 9 (.slice (some ⟨w.heap.size, 0, none⟩) 1 1)).run Try.prog (w.alloc (.cells #[.int .u8 (i : Int)] 5)) = .ok (.string (strOf [UInt8.ofNat i])) (w.alloc (.cells #[.int .u8 (i : Int)] 5)) := by
  refine BytAt.conv (B := w.heap.size + 1) (l := [UInt8.ofNat i]) ⟨_, 1, rfl, Nat.le_refl _, by decide, (fun e => by cases e), fun _ => ⟨_, rfl, Nat.lt_succ_self _, fun j hj => ?_⟩⟩
  have hj0 : j = 0 := by simp at hj; omega
  subst hj0
  rw [add_nonS, cell_of_row _ _ _ _ _ _ (heap_alloc_new w _)]
  simp [dOf, Nat.mod_eq_of_lt hi]
theorem five_few (s1 s2 s3 : ByteArray) (h1 : s1.size ≤ 120) (h2 : s2.size ≤ 120) (h3 : s3.size ≤ 120) : FewT [s1, ⟨#[120]⟩, s1, s2, s3] := by
  refine ⟨by simp, fun s hs => ?_⟩
  simp only [List.mem_cons, List.not_mem_nil, or_false] at hs
  rcases hs with rfl | rfl | rfl | rfl | rfl
  · exact h1
  · decide
  · exact h1
  · exact h2
  · exact h3
theorem file_lit (s : ByteArray) (w : World) : Calls Try.prog 15 #[.string s] w fun e W => e = .returned (.agg #[.int .u8 1, .string s, .slice none 0 0]) ∧ Below w.heap.size w W := by
  go_enter Try.func15, Try.ntmps15
  have hbw := (Below.refl w.heap.size w).alloc (Nat.le_refl _) (.cells #[.int .u8 1, .string s, .slice none 0 0] 40)
  have hnb := heap_alloc_new w (.cells #[.int .u8 1, .string s, .slice none 0 0] 40)
  have hi : (Try.prog.info? 40).map (·.size) = some 3 := by kernel_rfl
  have HH := Lib.hid (And.intro hbw hnb)
  clear hbw hnb
  go_wp2
  exact bodyPost_ret (results_cell_row rfl _ _ _ _ _ _ _ rfl HH.out.2 Try.underlying40 (by rfl) hi) rfl ⟨rfl, HH.out.1⟩
def cE13 : Array Value := #[.string (strOf (List.replicate 20 48)), .int .u8 1, .string (strOf (List.replicate 12 48)), .slice none 0 0, .string (strOf (List.replicate 16 48 ++ [49])), .int .u8 1, .string (strOf (List.replicate 31 48)), .slice none 0 0]
inductive Kx
  | val (v : Value) | ent | nde | box | non
def RX (B : Nat) : Kx → Value → World → Prop
  | .val u, v, _ => v = u
  | .ent, v, w => ∃ r, v = .slice (some ⟨r, 0, none⟩) 2 2 ∧ w.heap[r]? = some (.cells cE13 43 (0, 0))
  | .nde, v, w => ∃ r, v = .agg #[.int .u8 4, .string ⟨#[]⟩, .slice (some ⟨r, 0, none⟩) 2 2] ∧ w.heap[r]? = some (.cells cE13 43 (0, 0))
  | .box, v, w => ∃ g, v = .pointer (some ⟨g, 0, none⟩) ∧ B ≤ g ∧ w.heap[g]? = some (.cells #[.int .u8 0, .string ⟨#[]⟩, .slice none 0 0] 40 (0, 0))
  | .non, _, _ => True
theorem RX.below {B : Nat} {k : Kx} {v : Value} {w w' : World} (h : RX B k v w) (hb : Below w.heap.size w w') : RX B k v w' := by
  cases k with
  | val u => exact h
  | ent => obtain ⟨r, h1, h2⟩ := h; exact ⟨r, h1, (hb.block r (block_lt h2)).trans h2⟩
  | nde => obtain ⟨r, h1, h2⟩ := h; exact ⟨r, h1, (hb.block r (block_lt h2)).trans h2⟩
  | box => obtain ⟨g, h1, h2, h3⟩ := h; exact ⟨g, h1, h2, (hb.block g (block_lt h3)).trans h3⟩
  | non => trivial
def kindsX : List Kx := [.val (.string (strOf (List.replicate 32 48))), .val (.string (strOf (List.replicate 20 48))), .val (.string (strOf (List.replicate 32 48))), .val (.string (strOf (List.replicate 12 48))), .val (.agg #[.int .u8 1, .string (strOf (List.replicate 12 48)), .slice none 0 0]), .val (.agg #[.string (strOf (List.replicate 20 48)), .int .u8 1, .string (strOf (List.replicate 12 48)), .slice none 0 0]), .val (.string (strOf (List.replicate 32 48))), .val (.string (strOf (List.replicate 16 48))), .val (.string (strOf (List.replicate 16 48 ++ [49]))), .val (.string (strOf (List.replicate 32 48))), .val (.string (strOf (List.replicate 31 48))), .val (.agg #[.int .u8 1, .string (strOf (List.replicate 31 48)), .slice none 0 0]), .val (.agg #[.string (strOf (List.replicate 16 48 ++ [49])), .int .u8 1, .string (strOf (List.replicate 31 48)), .slice none 0 0]), .ent, .nde, .box, .non]
/-- A node in a box. -/
def BoxP (W : World) (g : Nat) (nd : Nd) : Prop := ∃ A c, W.heap[g]? = some (ndCells nd.k nd.d (.slice A nd.es.len c)) ∧ EsAt W W.heap.size (.slice A nd.es.len c) nd.es ∧ nd.d.size ≤ maxLen ∧ nd.k < 256
theorem BoxP.keep {W W' : World} {g : Nat} {nd : Nd} (h : BoxP W g nd) (hb : Below W.heap.size W W') : BoxP W' g nd := by
  obtain ⟨A, c, h1, h2, h3⟩ := h
  exact ⟨A, c, (hb.block g (block_lt h1)).trans h1, (h2.keep hb).more hb.size, h3⟩
def dirN : Nd := ⟨4, ⟨#[]⟩, .cons (strOf (List.replicate 20 48)) 1 (strOf (List.replicate 12 48)) .nil (.cons (strOf (List.replicate 16 48 ++ [49])) 1 (strOf (List.replicate 31 48)) .nil .nil)⟩
theorem small_str (l : List UInt8) (h : l.length ≤ 1000) : (strOf l).size ≤ maxLen := by rw [strOf_size]; unfold maxLen; omega
theorem dir_at {W : World} {r : Nat} (h : W.heap[r]? = some (.cells cE13 43 (0, 0))) : EsAt W W.heap.size (.slice (some ⟨r, 0, none⟩) 2 2) dirN.es := by
  have hc : ∀ j v, cE13[j]? = some v → W.cell? ⟨r, j, none⟩ = some v := fun j v hv => by rw [cell_of_row _ _ _ _ _ _ h]; exact hv
  refine ⟨_, 2, rfl, Nat.le_refl _, by decide, (fun e => by cases e), fun _ => ⟨_, rfl, block_lt h, ?_⟩⟩
  refine ⟨hc 0 _ rfl, hc 1 _ rfl, hc 2 _ rfl, small_str _ (by decide), small_str _ (by decide), by decide, ⟨none, 0, hc 3 _ rfl, Nat.le_refl _, Nat.zero_le _, fun _ => rfl, fun h => absurd h (Nat.lt_irrefl 0)⟩, ?_⟩
  exact ⟨hc 4 _ rfl, hc 5 _ rfl, hc 6 _ rfl, small_str _ (by decide), small_str _ (by decide), by decide, ⟨none, 0, hc 7 _ rfl, Nat.le_refl _, Nat.zero_le _, fun _ => rfl, fun h => absurd h (Nat.lt_irrefl 0)⟩, trivial⟩
def namedN (tn : ByteArray) : Nd := ⟨4, ⟨#[]⟩, .cons tn 1 ⟨#[]⟩ .nil .nil⟩
def linkN (tn : ByteArray) : Nd := ⟨3, ⟨#[46, 46, 47]⟩ ++ tn, .nil⟩
def badN (tz : ByteArray) : Nd := ⟨4, tz, .nil⟩
theorem nil_es (W : World) (B : Nat) : EsAt W B (.slice none 0 0) .nil := ⟨none, 0, rfl, Nat.le_refl _, Nat.zero_le _, fun _ => rfl, fun h => absurd h (Nat.lt_irrefl 0)⟩
theorem four_at (w : World) (tn tz : ByteArray) (hn : tn.size ≤ 100) (hz : tz.size ≤ 100) : ∃ W, W = (((w.alloc (.cells #[.string tn, .int .u8 1, .string ⟨#[]⟩, .slice none 0 0] 43)).alloc (.cells #[.int .u8 4, .string ⟨#[]⟩, .slice (some ⟨w.heap.size, 0, none⟩) 1 1] 40)).alloc (.cells #[.int .u8 3, .string (⟨#[46, 46, 47]⟩ ++ tn), .slice none 0 0] 40)).alloc (.cells #[.int .u8 4, .string tz, .slice none 0 0] 40) ∧
    BoxP W (w.heap.size + 1) (namedN tn) ∧ BoxP W (w.heap.size + 1 + 1) (linkN tn) ∧ BoxP W (w.heap.size + 1 + 1 + 1) (badN tz) ∧ Below w.heap.size w W := by
  refine ⟨_, rfl, ?_⟩
  generalize e1 : w.alloc (.cells #[.string tn, .int .u8 1, .string ⟨#[]⟩, .slice none 0 0] 43) = W1
  have z1 : W1.heap.size = w.heap.size + 1 := by rw [← e1]; simp
  have h1 : W1.heap[w.heap.size]? = some (.cells #[.string tn, .int .u8 1, .string ⟨#[]⟩, .slice none 0 0] 43 (0, 0)) := by rw [← e1]; exact heap_alloc_new _ _
  have b1 : Below w.heap.size w W1 := by rw [← e1]; exact (Below.refl _ _).alloc (Nat.le_refl _) _
  generalize e2 : W1.alloc (.cells #[.int .u8 4, .string ⟨#[]⟩, .slice (some ⟨w.heap.size, 0, none⟩) 1 1] 40) = W2
  have z2 : W2.heap.size = w.heap.size + 1 + 1 := by rw [← e2]; simp [z1]
  have h2 : W2.heap[w.heap.size + 1]? = some (ndCells 4 ⟨#[]⟩ (.slice (some ⟨w.heap.size, 0, none⟩) 1 1)) := by rw [← e2, ← z1]; exact heap_alloc_new _ _
  have b2 : Below W1.heap.size W1 W2 := by rw [← e2]; exact (Below.refl _ _).alloc (Nat.le_refl _) _
  generalize e3 : W2.alloc (.cells #[.int .u8 3, .string (⟨#[46, 46, 47]⟩ ++ tn), .slice none 0 0] 40) = W3
  have z3 : W3.heap.size = w.heap.size + 1 + 1 + 1 := by rw [← e3]; simp [z2]
  have h3 : W3.heap[w.heap.size + 1 + 1]? = some (ndCells 3 (⟨#[46, 46, 47]⟩ ++ tn) (.slice none 0 0)) := by rw [← e3, ← z2]; exact heap_alloc_new _ _
  have b3 : Below W2.heap.size W2 W3 := by rw [← e3]; exact (Below.refl _ _).alloc (Nat.le_refl _) _
  generalize e4 : W3.alloc (.cells #[.int .u8 4, .string tz, .slice none 0 0] 40) = W4
  have h4 : W4.heap[w.heap.size + 1 + 1 + 1]? = some (ndCells 4 tz (.slice none 0 0)) := by rw [← e4, ← z3]; exact heap_alloc_new _ _
  have b4 : Below W3.heap.size W3 W4 := by rw [← e4]; exact (Below.refl _ _).alloc (Nat.le_refl _) _
  have p2 : BoxP W2 (w.heap.size + 1) (namedN tn) := by
    refine ⟨some ⟨w.heap.size, 0, none⟩, 1, h2, ?_, (show (ByteArray.mk #[]).size ≤ maxLen by decide), (show (4 : Nat) < 256 by decide)⟩
    have h1' := (b2.block _ (block_lt h1)).trans h1
    have hc : ∀ j v, (#[.string tn, .int .u8 1, .string ⟨#[]⟩, .slice none 0 0] : Array Value)[j]? = some v → W2.cell? ⟨w.heap.size, j, none⟩ = some v := fun j v hv => by rw [cell_of_row _ _ _ _ _ _ h1']; exact hv
    refine ⟨_, 1, rfl, Nat.le_refl _, by decide, (fun e => by cases e), fun _ => ⟨_, rfl, block_lt h1', ?_⟩⟩
    exact ⟨hc 0 _ rfl, hc 1 _ rfl, hc 2 _ rfl, by unfold maxLen; omega, by decide, by decide, ⟨none, 0, hc 3 _ rfl, Nat.le_refl _, Nat.zero_le _, fun _ => rfl, fun h => absurd h (Nat.lt_irrefl 0)⟩, trivial⟩
  have p3 : BoxP W3 (w.heap.size + 1 + 1) (linkN tn) := ⟨none, 0, h3, nil_es _ _, by show (ByteArray.mk #[46, 46, 47] ++ tn).size ≤ _; rw [ByteArray.size_append, show (ByteArray.mk #[46, 46, 47]).size = 3 from rfl]; unfold maxLen; omega, (show (3 : Nat) < 256 by decide)⟩
  have p4 : BoxP W4 (w.heap.size + 1 + 1 + 1) (badN tz) := ⟨none, 0, h4, nil_es _ _, by show tz.size ≤ _; unfold maxLen; omega, (show (4 : Nat) < 256 by decide)⟩
  exact ⟨(p2.keep b3).keep b4, p3.keep b4, p4, b1.trans ((b2.trans ((b3.trans (b4.mono (by omega))).mono (by omega))).mono (by omega))⟩
theorem BoxP.cells {W : World} {g : Nat} {nd : Nd} (h : BoxP W g nd) : ∃ A c, W.cell? ⟨g, 0, none⟩ = some (.int .u8 (nd.k : Int)) ∧ W.cell? ⟨g, 1, none⟩ = some (.string nd.d) ∧ W.cell? ⟨g, 2, none⟩ = some (.slice A nd.es.len c) ∧ NdV W W.heap.size (.agg #[.int .u8 (nd.k : Int), .string nd.d, .slice A nd.es.len c]) nd ∧ W.heap[g]? = some (ndCells nd.k nd.d (.slice A nd.es.len c)) := by
  obtain ⟨A, c, h1, h2, h3, h4⟩ := h
  obtain ⟨x0, x1, x2, _⟩ := nd_box h1
  exact ⟨A, c, x0, x1, x2, ⟨_, rfl, h2, h3, h4⟩, h1⟩
/-- Five nodes in a row. -/
def Five (W : World) (gr : Nat) : Prop := gr < W.heap.size ∧ ∀ k, k < 5 → ∃ nd A c, W.cell? ⟨gr, k * 3, none⟩ = some (.int .u8 (nd.k : Int)) ∧ W.cell? ⟨gr, k * 3 + 1, none⟩ = some (.string nd.d) ∧ W.cell? ⟨gr, k * 3 + 2, none⟩ = some (.slice A nd.es.len c) ∧
  NdV W W.heap.size (.agg #[.int .u8 (nd.k : Int), .string nd.d, .slice A nd.es.len c]) nd ∧ weiN nd ≤ 800
theorem five_at {W W' : World} {gr : Nat} (nd1 nd2 nd3 nd4 : Nd) {A1 A2 A3 A4 : Option Addr} {c1 c2 c3 c4 : Nat} (hb : Below W.heap.size W W')
    (hg : W'.heap[gr]? = some (.cells #[.int .u8 (nd1.k : Int), .string nd1.d, .slice A1 nd1.es.len c1, .int .u8 (nd2.k : Int), .string nd2.d, .slice A2 nd2.es.len c2, .int .u8 (nd3.k : Int), .string nd3.d, .slice A3 nd3.es.len c3, .int .u8 (nd4.k : Int), .string nd4.d, .slice A4 nd4.es.len c4, .int .u8 0, .string ⟨#[]⟩, .slice none 0 0] 40 (0, 0)))
    (h1 : NdV W W.heap.size (.agg #[.int .u8 (nd1.k : Int), .string nd1.d, .slice A1 nd1.es.len c1]) nd1) (h2 : NdV W W.heap.size (.agg #[.int .u8 (nd2.k : Int), .string nd2.d, .slice A2 nd2.es.len c2]) nd2)
    (h3 : NdV W W.heap.size (.agg #[.int .u8 (nd3.k : Int), .string nd3.d, .slice A3 nd3.es.len c3]) nd3) (h4 : NdV W W.heap.size (.agg #[.int .u8 (nd4.k : Int), .string nd4.d, .slice A4 nd4.es.len c4]) nd4)
    (w1 : weiN nd1 ≤ 800) (w2 : weiN nd2 ≤ 800) (w3 : weiN nd3 ≤ 800) (w4 : weiN nd4 ≤ 800) : Five W' gr := by
  have hc := fun j => cell_of_row W' gr j _ _ _ hg
  refine ⟨block_lt hg, fun k hk => ?_⟩
  match k, hk with
  | 0, _ => exact ⟨nd1, A1, c1, hc 0, hc 1, hc 2, h1.below hb, w1⟩
  | 1, _ => exact ⟨nd2, A2, c2, hc 3, hc 4, hc 5, h2.below hb, w2⟩
  | 2, _ => exact ⟨nd3, A3, c3, hc 6, hc 7, hc 8, h3.below hb, w3⟩
  | 3, _ => exact ⟨nd4, A4, c4, hc 9, hc 10, hc 11, h4.below hb, w4⟩
  | 4, _ => exact ⟨⟨0, ⟨#[]⟩, .nil⟩, none, 0, hc 12, hc 13, hc 14, ⟨_, rfl, nil_es _ _, by decide, by decide⟩, by decide⟩
inductive Ky
  | val (v : Value) | byt (l : List UInt8) | row (xs : List ByteArray) | len (n : Nat)
def RY : Ky → Value → World → Prop
  | .val u, v, _ => v = u
  | .byt l, v, w => BytAt w w.heap.size v l
  | .row xs, v, w => Reads w w.heap.size v (strs xs)
  | .len n, v, w => ∃ xs : List ByteArray, xs.length = n ∧ Reads w w.heap.size v (strs xs)
theorem RY.below {k : Ky} {v : Value} {w w' : World} (h : RY k v w) (hb : Below w.heap.size w w') : RY k v w' := by
  cases k with
  | val u => exact h
  | byt l => exact (BytAt.keep h hb).more hb.size
  | row xs => exact (Reads.below h hb).more hb.size
  | len n => obtain ⟨xs, h1, h2⟩ := h; exact ⟨xs, h1, (Reads.below h2 hb).more hb.size⟩
def kindsY (V7 V8 V9 : Value) (tn : ByteArray) : List Ky := [.val V7, .val (.string tn), .row [tn], .len 0, .val (.int .i64 0), .val (.bool true), .val (.bool true), .val V8, .val (.string tn), .row [tn], .len 1, .val (.int .i64 1), .val (.bool true), .val (.bool true), .val (.bool true), .val V9, .val (.string tn), .val (.string tn), .row [tn, tn], .len 2, .val (.int .i64 2), .val (.bool true), .val (.bool true), .val (.bool true), .val (.string (strOf (List.replicate 32 48))), .val (.string (strOf (List.replicate 20 48))), .byt (List.replicate 20 48), .val (.string (strOf (List.replicate 32 48))), .val (.string (strOf (List.replicate 12 48))), .byt (List.replicate 12 48), .val (.agg #[.int .u8 9, .int .u8 0, .int .u8 0, .int .u8 0, .int .u8 0, .int .u8 0, .int .u8 0, .int .u8 0, .int .u8 0, .int .u8 0, .int .u8 0, .int .u8 0, .int .u8 0, .int .u8 0, .int .u8 0, .int .u8 0, .int .u8 0, .int .u8 0, .int .u8 0, .int .u8 0, .int .u8 0, .int .u8 0, .int .u8 0, .int .u8 0, .int .u8 0, .int .u8 0, .int .u8 0, .int .u8 0, .int .u8 0, .int .u8 0, .int .u8 0, .int .u8 0]), .val (.bool true), .val (.bool true), .val (.bool true), .val (.agg #[.int .u8 0, .int .u8 0, .int .u8 0, .int .u8 0, .int .u8 0, .int .u8 0, .int .u8 0, .int .u8 0, .int .u8 0, .int .u8 0, .int .u8 0, .int .u8 0, .int .u8 0, .int .u8 0, .int .u8 0, .int .u8 0, .int .u8 0, .int .u8 0, .int .u8 0, .int .u8 0, .int .u8 0, .int .u8 0, .int .u8 0, .int .u8 0, .int .u8 0, .int .u8 0, .int .u8 0, .int .u8 0, .int .u8 0, .int .u8 0, .int .u8 0, .int .u8 0]), .val (.bool true), .val (.bool true), .val (.bool true), .val (.bool true), .val (.bool true), .val (.bool true)]
theorem tree_len : (treeF dirN [strOf lt7]).length = 0 ∧ (treeF (namedN (strOf lt7)) [strOf lt7]).length = 1 ∧ (treeF (linkN (strOf lt7)) [strOf lt7, strOf lt7]).length = 2 := by decide +kernel
set_option maxRecDepth 100000 in
set_option maxHeartbeats 8000000 in
theorem scanKnown_walk (w : World) : Calls Try.prog 5 #[] w fun e W => e = .returned (.bool true) ∧ Below w.heap.size w W := by
  go_enter Try.func5, Try.ntmps5
  have HLT := Lib.hid (Nam.letters_is (fun _ => 0) (fun _ => by decide) w)
  rw [zero_is] at HLT
  have hn1 : ¬ 9223372036854775807 < (strOf lz).size + 2 := by rw [strOf_size]; decide
  go_upto_region 3 with (go_at_call 10; refine HLT.out.mono ?_; rintro e w1 ⟨rfl, hb1⟩)
  rw [name_txt]
  have HB1 := Lib.hid hb1
  clear hb1 HLT hn1
  obtain ⟨tz, htz⟩ : ∃ tz, tz = strOf lz := ⟨_, rfl⟩
  obtain ⟨tn, htn⟩ : ∃ tn, tn = strOf lt7 := ⟨_, rfl⟩
  rw [← htz, ← htn]
  have hz0 : tz.size = 32 := by rw [htz, strOf_size]; decide
  have hzn : tn.size = 34 := by rw [htn, strOf_size]; decide
  have HTZ := Lib.hid (show tz = strOf (List.replicate 32 48) by rw [htz, lz_rep])
  have HTN := Lib.hid (And.intro htz htn)
  clear htz htn
  go_wp2
  go_loopw [3] (fun u3 wx => ∃ i : Nat, i ≤ 256 ∧ u3 = .int .i64 (i : Int) ∧ Hid (Below w.heap.size w wx)) (fun u3 _ => 256 - (intOf u3).toNat)
  case atStart => exact ⟨0, by omega, rfl, HB1⟩
  case round =>
    obtain ⟨i, hi, rfl, HB⟩ := hrel
    by_cases hlt : i < 256
    · have hi1 : (i : Int) < 256 := by omega
      have hw1 : IntKind.i64.wrap ((i : Int) + 1) = (i : Int) + 1 := IntWalk.i64_in _ (by omega)
      have hwu : IntKind.u8.wrap (i : Int) = (i : Int) := by rw [IntKind.wrap_u8]; omega
      have hcv := byte_conv i hlt wr
      obtain ⟨tc, htc0⟩ : ∃ tc, tc = strOf [UInt8.ofNat i] := ⟨_, rfl⟩
      have htc : tc.size ≤ 1 := by rw [htc0, strOf_size]; simp
      rw [← htc0] at hcv
      clear htc0
      go_upto_region 7 with (fail)
      have hb2 : Below wr.heap.size wr (wr.alloc (.cells #[.int .u8 (i : Int)] 5)) := (Below.refl _ _).alloc (Nat.le_refl _) _
      have HB2 := Lib.hid (below_step HB.out hb2 HB.out.size)
      generalize wr.alloc (.cells #[.int .u8 (i : Int)] 5) = w2 at *
      clear hcv hb2
      rw [HTZ.out]
      refine Inv.wp_region_invW (by kernel_rfl) (fun w' => KeepW w2 w2.heap.size w') (fun k v w' => RK tc (kindsK.getD k (.num 99)) v w') (Inv.formW_spec (by kernel_rfl)) (KeepW.start (Nat.le_refl _)).drew (Inv.Each.steps ?_ rfl) (fun f w5 hC hR => ?_)
      · refine ⟨?_, ?_, ?_, ?_, ?_, ?_, ?_, ?_, ?_, ?_, ?_, ?_, ?_, ?_, ?_, ?_, ?_, ?_, ?_, ?_, ?_, ?_, ?_, ?_, ?_, ?_, ?_, ?_, ?_, ?_, ?_, ?_, ?_, ?_, trivial⟩
        · refine Inv.StepW.of_run rfl (fun _ _ _ => rfl) ⟨fun a w' hC hdep hfix => ?_⟩
          refine ⟨a.eval (.tmp 4), w', rfl, hC, ((hfix 4 (by decide)).trans rfl : RK tc (.one) (a.eval (.tmp 4)) w'), fun _ _ h => h⟩
        · refine Inv.StepW.of_run rfl (fun _ _ _ => rfl) ⟨fun a w' hC hdep hfix => ?_⟩
          refine ⟨a.eval (.tmp 1), w', rfl, hC, ((hfix 1 (by decide)).trans rfl : RK tc (.txt (List.replicate 32 48)) (a.eval (.tmp 1)) w'), fun _ _ h => h⟩
        · refine Inv.StepW.of_run rfl (fun _ _ _ => rfl) ⟨fun a w' hC hdep hfix => ?_⟩
          obtain ⟨s0, e0, z0⟩ : ∃ s, a.eval (.tmp 25) = .string s ∧ s.size ≤ 1 := ⟨tc, hdep 0 _ 25 rfl rfl (by kernel_rfl), htc⟩
          obtain ⟨s1, e1, z1⟩ : ∃ s, a.eval (.tmp 26) = .string s ∧ s.size ≤ 32 := ⟨_, hdep 1 _ 26 rfl rfl (by kernel_rfl), by rw [strOf_size]; decide⟩
          refine ⟨.string (s0 ++ s1), w', ?_, hC, ⟨_, rfl, by rw [ByteArray.size_append]; omega⟩, fun _ _ h => h⟩
          simp only [execOp, e0, e1]
          exact add_text s0 s1 w' (by omega)
        · refine Inv.StepW.of_run rfl (fun _ _ _ => rfl) ⟨fun a w' hC hdep hfix => ?_⟩
          refine ⟨a.eval (.tmp 1), w', rfl, hC, ((hfix 1 (by decide)).trans rfl : RK tc (.txt (List.replicate 32 48)) (a.eval (.tmp 1)) w'), fun _ _ h => h⟩
        · refine Inv.StepW.of_run rfl (fun _ _ _ => rfl) ⟨fun a w' hC hdep hfix => ?_⟩
          refine ⟨a.eval (.tmp 4), w', rfl, hC, ((hfix 4 (by decide)).trans rfl : RK tc (.one) (a.eval (.tmp 4)) w'), fun _ _ h => h⟩
        · refine Inv.StepW.of_run rfl (fun _ _ _ => rfl) ⟨fun a w' hC hdep hfix => ?_⟩
          obtain ⟨s0, e0, z0⟩ : ∃ s, a.eval (.tmp 28) = .string s ∧ s.size ≤ 32 := ⟨_, hdep 3 _ 28 rfl rfl (by kernel_rfl), by rw [strOf_size]; decide⟩
          obtain ⟨s1, e1, z1⟩ : ∃ s, a.eval (.tmp 29) = .string s ∧ s.size ≤ 1 := ⟨tc, hdep 4 _ 29 rfl rfl (by kernel_rfl), htc⟩
          refine ⟨.string (s0 ++ s1), w', ?_, hC, ⟨_, rfl, by rw [ByteArray.size_append]; omega⟩, fun _ _ h => h⟩
          simp only [execOp, e0, e1]
          exact add_text s0 s1 w' (by omega)
        · refine Inv.StepW.of_run rfl (fun _ _ _ => rfl) ⟨fun a w' hC hdep hfix => ?_⟩
          refine ⟨a.eval (.tmp 4), w', rfl, hC, ((hfix 4 (by decide)).trans rfl : RK tc (.one) (a.eval (.tmp 4)) w'), fun _ _ h => h⟩
        · refine Inv.StepW.of_run rfl (fun _ _ _ => rfl) ⟨fun a w' hC hdep hfix => ?_⟩
          refine ⟨a.eval (.tmp 1), w', rfl, hC, ((hfix 1 (by decide)).trans rfl : RK tc (.txt (List.replicate 32 48)) (a.eval (.tmp 1)) w'), fun _ _ h => h⟩
        · refine Inv.StepW.of_run rfl (fun _ _ _ => rfl) ⟨fun a w' hC hdep hfix => ?_⟩
          obtain ⟨s0, e0, z0⟩ : ∃ s, a.eval (.tmp 31) = .string s ∧ s.size ≤ 1 := ⟨tc, hdep 6 _ 31 rfl rfl (by kernel_rfl), htc⟩
          obtain ⟨s1, e1, z1⟩ : ∃ s, a.eval (.tmp 32) = .string s ∧ s.size ≤ 32 := ⟨_, hdep 7 _ 32 rfl rfl (by kernel_rfl), by rw [strOf_size]; decide⟩
          refine ⟨.string (s0 ++ s1), w', ?_, hC, ⟨_, rfl, by rw [ByteArray.size_append]; omega⟩, fun _ _ h => h⟩
          simp only [execOp, e0, e1]
          exact add_text s0 s1 w' (by omega)
        · refine Inv.StepW.of_run rfl (fun _ _ _ => rfl) ⟨fun a w' hC hdep hfix => ?_⟩
          refine ⟨a.eval (.tmp 4), w', rfl, hC, ((hfix 4 (by decide)).trans rfl : RK tc (.one) (a.eval (.tmp 4)) w'), fun _ _ h => h⟩
        · refine Inv.StepW.of_run rfl (fun _ _ _ => rfl) ⟨fun a w' hC hdep hfix => ?_⟩
          obtain ⟨s0, e0, z0⟩ : ∃ s, a.eval (.tmp 33) = .string s ∧ s.size ≤ 33 := hdep 8 _ 33 rfl rfl (by kernel_rfl)
          obtain ⟨s1, e1, z1⟩ : ∃ s, a.eval (.tmp 34) = .string s ∧ s.size ≤ 1 := ⟨tc, hdep 9 _ 34 rfl rfl (by kernel_rfl), htc⟩
          refine ⟨.string (s0 ++ s1), w', ?_, hC, ⟨_, rfl, by rw [ByteArray.size_append]; omega⟩, fun _ _ h => h⟩
          simp only [execOp, e0, e1]
          exact add_text s0 s1 w' (by omega)
        · refine Inv.StepW.of_run rfl (fun _ _ _ => rfl) ⟨fun a w' hC hdep hfix => ?_⟩
          refine ⟨a.eval (.tmp 1), w', rfl, hC, ((hfix 1 (by decide)).trans rfl : RK tc (.txt (List.replicate 32 48)) (a.eval (.tmp 1)) w'), fun _ _ h => h⟩
        · refine Inv.StepW.of_run rfl (fun _ _ _ => rfl) ⟨fun a w' hC hdep hfix => ?_⟩
          have e0 : a.eval (.tmp 36) = .string (strOf (List.replicate 32 48)) := hdep 11 _ 36 rfl rfl (by kernel_rfl)
          refine ⟨.string (strOf (List.replicate 31 48)), w', ?_, hC, rfl, fun _ _ h => h⟩
          simp only [execOp, e0]
          kernel_rfl
        · refine Inv.StepW.of_run rfl (fun _ _ _ => rfl) ⟨fun a w' hC hdep hfix => ?_⟩
          refine ⟨a.eval (.tmp 4), w', rfl, hC, ((hfix 4 (by decide)).trans rfl : RK tc (.one) (a.eval (.tmp 4)) w'), fun _ _ h => h⟩
        · refine Inv.StepW.of_run rfl (fun _ _ _ => rfl) ⟨fun a w' hC hdep hfix => ?_⟩
          obtain ⟨s0, e0, z0⟩ : ∃ s, a.eval (.tmp 37) = .string s ∧ s.size ≤ 31 := ⟨_, hdep 12 _ 37 rfl rfl (by kernel_rfl), by rw [strOf_size]; decide⟩
          obtain ⟨s1, e1, z1⟩ : ∃ s, a.eval (.tmp 38) = .string s ∧ s.size ≤ 1 := ⟨tc, hdep 13 _ 38 rfl rfl (by kernel_rfl), htc⟩
          refine ⟨.string (s0 ++ s1), w', ?_, hC, ⟨_, rfl, by rw [ByteArray.size_append]; omega⟩, fun _ _ h => h⟩
          simp only [execOp, e0, e1]
          exact add_text s0 s1 w' (by omega)
        · refine Inv.StepW.of_run rfl (fun _ _ _ => rfl) ⟨fun a w' hC hdep hfix => ?_⟩
          refine ⟨a.eval (.tmp 4), w', rfl, hC, ((hfix 4 (by decide)).trans rfl : RK tc (.one) (a.eval (.tmp 4)) w'), fun _ _ h => h⟩
        · refine Inv.StepW.of_run rfl (fun _ _ _ => rfl) ⟨fun a w' hC hdep hfix => ?_⟩
          refine ⟨a.eval (.tmp 1), w', rfl, hC, ((hfix 1 (by decide)).trans rfl : RK tc (.txt (List.replicate 32 48)) (a.eval (.tmp 1)) w'), fun _ _ h => h⟩
        · refine Inv.StepW.of_run rfl (fun _ _ _ => rfl) ⟨fun a w' hC hdep hfix => ?_⟩
          have e0 : a.eval (.tmp 41) = .string (strOf (List.replicate 32 48)) := hdep 16 _ 41 rfl rfl (by kernel_rfl)
          refine ⟨.string (strOf (List.replicate 31 48)), w', ?_, hC, rfl, fun _ _ h => h⟩
          simp only [execOp, e0]
          kernel_rfl
        · refine Inv.StepW.of_run rfl (fun _ _ _ => rfl) ⟨fun a w' hC hdep hfix => ?_⟩
          obtain ⟨s0, e0, z0⟩ : ∃ s, a.eval (.tmp 40) = .string s ∧ s.size ≤ 1 := ⟨tc, hdep 15 _ 40 rfl rfl (by kernel_rfl), htc⟩
          obtain ⟨s1, e1, z1⟩ : ∃ s, a.eval (.tmp 42) = .string s ∧ s.size ≤ 31 := ⟨_, hdep 17 _ 42 rfl rfl (by kernel_rfl), by rw [strOf_size]; decide⟩
          refine ⟨.string (s0 ++ s1), w', ?_, hC, ⟨_, rfl, by rw [ByteArray.size_append]; omega⟩, fun _ _ h => h⟩
          simp only [execOp, e0, e1]
          exact add_text s0 s1 w' (by omega)
        · refine Inv.StepW.of_run rfl (fun _ _ _ => rfl) ⟨fun a w' hC hdep hfix => ?_⟩
          refine ⟨a.eval (.tmp 1), w', rfl, hC, ((hfix 1 (by decide)).trans rfl : RK tc (.txt (List.replicate 32 48)) (a.eval (.tmp 1)) w'), fun _ _ h => h⟩
        · refine Inv.StepW.of_run rfl (fun _ _ _ => rfl) ⟨fun a w' hC hdep hfix => ?_⟩
          have e0 : a.eval (.tmp 44) = .string (strOf (List.replicate 32 48)) := hdep 19 _ 44 rfl rfl (by kernel_rfl)
          refine ⟨.string (strOf (List.replicate 16 48)), w', ?_, hC, rfl, fun _ _ h => h⟩
          simp only [execOp, e0]
          kernel_rfl
        · refine Inv.StepW.of_run rfl (fun _ _ _ => rfl) ⟨fun a w' hC hdep hfix => ?_⟩
          refine ⟨a.eval (.tmp 4), w', rfl, hC, ((hfix 4 (by decide)).trans rfl : RK tc (.one) (a.eval (.tmp 4)) w'), fun _ _ h => h⟩
        · refine Inv.StepW.of_run rfl (fun _ _ _ => rfl) ⟨fun a w' hC hdep hfix => ?_⟩
          obtain ⟨s0, e0, z0⟩ : ∃ s, a.eval (.tmp 45) = .string s ∧ s.size ≤ 16 := ⟨_, hdep 20 _ 45 rfl rfl (by kernel_rfl), by rw [strOf_size]; decide⟩
          obtain ⟨s1, e1, z1⟩ : ∃ s, a.eval (.tmp 46) = .string s ∧ s.size ≤ 1 := ⟨tc, hdep 21 _ 46 rfl rfl (by kernel_rfl), htc⟩
          refine ⟨.string (s0 ++ s1), w', ?_, hC, ⟨_, rfl, by rw [ByteArray.size_append]; omega⟩, fun _ _ h => h⟩
          simp only [execOp, e0, e1]
          exact add_text s0 s1 w' (by omega)
        · refine Inv.StepW.of_run rfl (fun _ _ _ => rfl) ⟨fun a w' hC hdep hfix => ?_⟩
          refine ⟨a.eval (.tmp 1), w', rfl, hC, ((hfix 1 (by decide)).trans rfl : RK tc (.txt (List.replicate 32 48)) (a.eval (.tmp 1)) w'), fun _ _ h => h⟩
        · refine Inv.StepW.of_run rfl (fun _ _ _ => rfl) ⟨fun a w' hC hdep hfix => ?_⟩
          have e0 : a.eval (.tmp 48) = .string (strOf (List.replicate 32 48)) := hdep 23 _ 48 rfl rfl (by kernel_rfl)
          refine ⟨.string (strOf (List.replicate 16 48)), w', ?_, hC, rfl, fun _ _ h => h⟩
          simp only [execOp, e0]
          kernel_rfl
        · refine Inv.StepW.of_run rfl (fun _ _ _ => rfl) ⟨fun a w' hC hdep hfix => ?_⟩
          obtain ⟨s0, e0, z0⟩ : ∃ s, a.eval (.tmp 47) = .string s ∧ s.size ≤ 17 := hdep 22 _ 47 rfl rfl (by kernel_rfl)
          obtain ⟨s1, e1, z1⟩ : ∃ s, a.eval (.tmp 49) = .string s ∧ s.size ≤ 16 := ⟨_, hdep 24 _ 49 rfl rfl (by kernel_rfl), by rw [strOf_size]; decide⟩
          refine ⟨.string (s0 ++ s1), w', ?_, hC, ⟨_, rfl, by rw [ByteArray.size_append]; omega⟩, fun _ _ h => h⟩
          simp only [execOp, e0, e1]
          exact add_text s0 s1 w' (by omega)
        · refine Inv.StepW.of_run rfl (fun _ _ _ => rfl) ⟨fun a w' hC hdep hfix => ?_⟩
          refine ⟨a.eval (.tmp 1), w', rfl, hC, ((hfix 1 (by decide)).trans rfl : RK tc (.txt (List.replicate 32 48)) (a.eval (.tmp 1)) w'), fun _ _ h => h⟩
        · refine Inv.StepW.of_run rfl (fun _ _ _ => rfl) ⟨fun a w' hC hdep hfix => ?_⟩
          refine ⟨a.eval (.tmp 4), w', rfl, hC, ((hfix 4 (by decide)).trans rfl : RK tc (.one) (a.eval (.tmp 4)) w'), fun _ _ h => h⟩
        · refine Inv.StepW.of_run rfl (fun _ _ _ => rfl) ⟨fun a w' hC hdep hfix => ?_⟩
          obtain ⟨s0, e0, z0⟩ : ∃ s, a.eval (.tmp 51) = .string s ∧ s.size ≤ 32 := ⟨_, hdep 26 _ 51 rfl rfl (by kernel_rfl), by rw [strOf_size]; decide⟩
          obtain ⟨s1, e1, z1⟩ : ∃ s, a.eval (.tmp 52) = .string s ∧ s.size ≤ 1 := ⟨tc, hdep 27 _ 52 rfl rfl (by kernel_rfl), htc⟩
          refine ⟨.string (s0 ++ s1), w', ?_, hC, ⟨_, rfl, by rw [ByteArray.size_append]; omega⟩, fun _ _ h => h⟩
          simp only [execOp, e0, e1]
          exact add_text s0 s1 w' (by omega)
        · refine Inv.StepW.of_run rfl (fun _ _ _ => rfl) ⟨fun a w' hC hdep hfix => ?_⟩
          refine ⟨a.eval (.tmp 1), w', rfl, hC, ((hfix 1 (by decide)).trans rfl : RK tc (.txt (List.replicate 32 48)) (a.eval (.tmp 1)) w'), fun _ _ h => h⟩
        · refine Inv.StepW.of_run rfl (fun _ _ _ => rfl) ⟨fun a w' hC hdep hfix => ?_⟩
          obtain ⟨s0, e0, z0⟩ : ∃ s, a.eval (.tmp 53) = .string s ∧ s.size ≤ 33 := hdep 28 _ 53 rfl rfl (by kernel_rfl)
          obtain ⟨s1, e1, z1⟩ : ∃ s, a.eval (.tmp 54) = .string s ∧ s.size ≤ 32 := ⟨_, hdep 29 _ 54 rfl rfl (by kernel_rfl), by rw [strOf_size]; decide⟩
          refine ⟨.string (s0 ++ s1), w', ?_, hC, ⟨_, rfl, by rw [ByteArray.size_append]; omega⟩, fun _ _ h => h⟩
          simp only [execOp, e0, e1]
          exact add_text s0 s1 w' (by omega)
        · refine Inv.StepW.of_run rfl (fun _ _ _ => rfl) ⟨fun a w' hC hdep hfix => ?_⟩
          obtain ⟨s0, e0, z0⟩ : ∃ s, a.eval (.tmp 27) = .string s ∧ s.size ≤ 33 := hdep 2 _ 27 rfl rfl (by kernel_rfl)
          obtain ⟨s1, e1, z1⟩ : ∃ s, a.eval (.tmp 30) = .string s ∧ s.size ≤ 33 := hdep 5 _ 30 rfl rfl (by kernel_rfl)
          obtain ⟨s2, e2, z2⟩ : ∃ s, a.eval (.tmp 35) = .string s ∧ s.size ≤ 34 := hdep 10 _ 35 rfl rfl (by kernel_rfl)
          obtain ⟨s3, e3, z3⟩ : ∃ s, a.eval (.tmp 39) = .string s ∧ s.size ≤ 32 := hdep 14 _ 39 rfl rfl (by kernel_rfl)
          obtain ⟨s4, e4, z4⟩ : ∃ s, a.eval (.tmp 43) = .string s ∧ s.size ≤ 32 := hdep 18 _ 43 rfl rfl (by kernel_rfl)
          obtain ⟨s5, e5, z5⟩ : ∃ s, a.eval (.tmp 50) = .string s ∧ s.size ≤ 33 := hdep 25 _ 50 rfl rfl (by kernel_rfl)
          obtain ⟨s6, e6, z6⟩ : ∃ s, a.eval (.tmp 55) = .string s ∧ s.size ≤ 65 := hdep 30 _ 55 rfl rfl (by kernel_rfl)
          have hba : Below w'.heap.size w' (w'.alloc (.cells #[.string s0, .string s1, .string s2, .string s3, .string s4, .string s5, .string s6] 9)) := (Below.refl _ _).alloc (Nat.le_refl _) _
          refine ⟨.slice (some ⟨w'.heap.size, 0, none⟩) 7 7, w'.alloc (.cells #[.string s0, .string s1, .string s2, .string s3, .string s4, .string s5, .string s6] 9), ?_, hC.alloc _, ⟨[s0, s1, s2, s3, s4, s5, s6], rfl, ?_, reads_new w' #[.string s0, .string s1, .string s2, .string s3, .string s4, .string s5, .string s6] 9 (strs [s0, s1, s2, s3, s4, s5, s6]) rfl (by simp [strs])⟩, fun _ _ h => RK.below h hba⟩
          · unfold execOp
            simp only [List.map_toArray, List.map_cons, List.map_nil, e0, e1, e2, e3, e4, e5, e6]
            kernel_rfl
          · intro s hs
            simp only [List.mem_cons, List.not_mem_nil, or_false] at hs
            rcases hs with rfl | rfl | rfl | rfl | rfl | rfl | rfl <;> omega
        · refine Inv.StepW.of_run rfl (fun _ _ _ => rfl) ⟨fun a w' hC hdep hfix => ?_⟩
          have e0 : RK tc .row (a.eval (.tmp 56)) w' := hdep 31 _ 56 rfl rfl (by kernel_rfl)
          obtain ⟨xs, hx1, hx2, A2, c2, e2, _⟩ := e0
          rw [strs_len, hx1] at e2
          refine ⟨.int .i64 7, w', ?_, hC, rfl, fun _ _ h => h⟩
          simp only [execOp, resolve, List.map_toArray, List.map_cons, List.map_nil, e2]
          kernel_rfl
        · refine Inv.StepW.of_run rfl (fun _ _ _ => rfl) ⟨fun a w' hC hdep hfix => ?_⟩
          exact ⟨.int .i64 0, w', rfl, hC, rfl, fun _ _ h => h⟩
      obtain ⟨xs, hx1, hx2, hx3⟩ : RK tc .row (f 56) w5 := hR 31 _ 56 rfl rfl
      have hv57 : f 57 = .int .i64 7 := hR 32 _ 57 rfl rfl
      have hv58 : f 58 = .int .i64 0 := hR 33 _ 58 rfl rfl
      rw [← HTZ.out]
      simp only [Inv.dsts, List.filterMap_cons, List.filterMap_nil, List.foldl_cons, List.foldl_nil, Act.put, List.setIfInBounds_toArray, List.set_cons_succ, List.set_cons_zero]
      obtain ⟨A5, c5, e56, hc5, hA5, hrow5⟩ := hx3.shape
      rw [hv57, hv58, e56]
      have HX := Lib.hid (hx3.rowV)
      have HXS := Lib.hid hx2
      have HB5 := Lib.hid (below_step HB2.out hC.1 HB2.out.size)
      rw [hx1]
      have HX1 := Lib.hid hx1
      rw [e56] at HX
      clear hC hR hv57 hv58 hx1 hx2 hx3 hrow5 e56
      go_wp2
      go_loopw [58] (fun u wx => ∃ k : Nat, k ≤ 7 ∧ u = .int .i64 (k : Int) ∧ Hid (Below w5.heap.size w5 wx)) (fun u _ => 7 - (intOf u).toNat)
      case atStart => exact ⟨0, by omega, rfl, Lib.hid (Below.refl _ _)⟩
      case round =>
        obtain ⟨k, hk, rfl, HBk⟩ := hrel
        by_cases hlk : k < 7
        · have hk1 : (k : Int) < 7 := by omega
          have hk0 : (0 : Int) ≤ (k : Int) := by omega
          have hw2 : IntKind.i64.wrap ((k : Int) + 1) = (k : Int) + 1 := IntWalk.i64_in _ (by omega)
          obtain ⟨ad, rfl, hbl, hc⟩ := HX.out _ _ _ rfl (by rw [HX1.out]; decide)
          have hlx : k < xs.length := by rw [HX1.out]; exact hlk
          have hcx := (HBk.out.cell (by rw [add_block]; exact hbl)).trans (hc k _ (strs_get xs k hlx))
          have hxz := HXS.out _ (getT_mem hlx)
          generalize xs.getD k ⟨#[]⟩ = x at *
          clear hc hbl
          obtain ⟨A6, c6, w6, hcv6, hb6, hy6⟩ := bytes_text wr x (by unfold maxLen; omega)
          have HSA := Lib.hid (scanAll_c _ x w6 hy6)
          have HB6 := Lib.hid (below_step HBk.out hb6 HBk.out.size)
          clear hb6 hy6
          go_wp2_with fail
          refine HSA.out.mono ?_
          rintro e w7 ⟨rfl, hb7⟩
          have HB7 := Lib.hid (below_step HB6.out hb7 HB6.out.size)
          obtain ⟨A8, c8, w8, hcv8, hb8, hy8⟩ := bytes_text w7 x (by unfold maxLen; omega)
          have HB8 := Lib.hid (below_step HB7.out hb8 HB7.out.size)
          have HY8 := Lib.hid hy8
          have hn2 : ¬ 9223372036854775807 < (tz.extract 1 tz.size).size + 3 := by simp; omega
          clear hb7 hb8 hy8 HSA hcv6 hcx
          go_wp2_with fail
          obtain ⟨t5, ht5⟩ : ∃ t5, t5 = tz.extract 1 32 ++ ⟨#[49, 45, 98]⟩ := ⟨_, rfl⟩
          have ht5z : t5.size ≤ 120 := by rw [ht5, ByteArray.size_append, show (ByteArray.mk #[49, 45, 98]).size = 3 from rfl]; simp; omega
          rw [← ht5]
          clear ht5
          have hba : Below w8.heap.size w8 (w8.alloc (.cells #[.string tn, .string ⟨#[120]⟩, .string tn, .string tz, .string t5] 9)) := (Below.refl _ _).alloc (Nat.le_refl _) _
          have HRF := Lib.hid (scanRefs_c _ _ x.data.toList [tn, ⟨#[120]⟩, tn, tz, t5] _ _ ((HY8.out.keep hba).more hba.size) (reads_new w8 #[.string tn, .string ⟨#[120]⟩, .string tn, .string tz, .string t5] 9 (strs [tn, ⟨#[120]⟩, tn, tz, t5]) rfl (by simp [strs])) (Nat.le_refl _) (by rw [Array.length_toList]; have : x.data.size = x.size := rfl; omega) (five_few tn tz t5 (by omega) (by omega) ht5z))
          have HB9 := Lib.hid (below_step HB8.out hba HB8.out.size)
          rw [Array.length_toList] at HRF
          generalize w8.alloc (.cells #[.string tn, .string ⟨#[120]⟩, .string tn, .string tz, .string t5] 9) = w9 at *
          clear hba hcv8 hn2
          refine HRF.out.mono ?_
          rintro e w10 ⟨rfl, hb10⟩
          have HB10 := Lib.hid (below_step HB9.out hb10 HB9.out.size)
          clear hb10 HRF
          go_wp2
          go_roundw
          case rel => exact ⟨k + 1, by omega, by go_num, HB10⟩
          case measure => simp [intOf]; omega
        · have hk1 : ¬ (k : Int) < 7 := by omega
          have HBo := Lib.hid (below_step HB5.out HBk.out HB5.out.size)
          go_wp2
          go_roundw
          case rel => exact ⟨i + 1, by omega, by go_num, HBo⟩
          case measure => simp [intOf]; omega
    · have hi1 : ¬ (i : Int) < 256 := by omega
      go_upto_region 13 with (fail)
      rw [HTZ.out]
      refine Inv.wp_region_invL (m := 16) (by kernel_rfl) (fun w' => KeepW wr wr.heap.size w') (fun k v w' => RX wr.heap.size (kindsX.getD k .non) v w') (Inv.formL_spec (by kernel_rfl)) (KeepW.start (Nat.le_refl _)).drew (Inv.Each.steps ?_ rfl) (fun f w5 K hC hR hK => ?_)
      · refine ⟨?_, ?_, ?_, ?_, ?_, ?_, ?_, ?_, ?_, ?_, ?_, ?_, ?_, ?_, ?_, ?_, ?_, trivial⟩
        · intro _
          refine Inv.StepW.of_run rfl (fun _ _ _ => rfl) ⟨fun a w' hC hdep hfix => ?_⟩
          have e0 : a.eval (.tmp 1) = .string (strOf (List.replicate 32 48)) := (hfix 1 (by decide)).trans rfl
          refine ⟨.string (strOf (List.replicate 32 48)), w', ?_, hC, rfl, fun _ _ h => h⟩
          simp only [execOp, List.map_toArray, List.map_cons, List.map_nil, e0]
          kernel_rfl
        · intro _
          refine Inv.StepW.of_run rfl (fun _ _ _ => rfl) ⟨fun a w' hC hdep hfix => ?_⟩
          have e0 : a.eval (.tmp 80) = .string (strOf (List.replicate 32 48)) := hdep 0 _ 80 rfl rfl (by kernel_rfl)
          refine ⟨.string (strOf (List.replicate 20 48)), w', ?_, hC, rfl, fun _ _ h => h⟩
          simp only [execOp, List.map_toArray, List.map_cons, List.map_nil, e0]
          kernel_rfl
        · intro _
          refine Inv.StepW.of_run rfl (fun _ _ _ => rfl) ⟨fun a w' hC hdep hfix => ?_⟩
          have e0 : a.eval (.tmp 1) = .string (strOf (List.replicate 32 48)) := (hfix 1 (by decide)).trans rfl
          refine ⟨.string (strOf (List.replicate 32 48)), w', ?_, hC, rfl, fun _ _ h => h⟩
          simp only [execOp, List.map_toArray, List.map_cons, List.map_nil, e0]
          kernel_rfl
        · intro _
          refine Inv.StepW.of_run rfl (fun _ _ _ => rfl) ⟨fun a w' hC hdep hfix => ?_⟩
          have e0 : a.eval (.tmp 82) = .string (strOf (List.replicate 32 48)) := hdep 2 _ 82 rfl rfl (by kernel_rfl)
          refine ⟨.string (strOf (List.replicate 12 48)), w', ?_, hC, rfl, fun _ _ h => h⟩
          simp only [execOp, List.map_toArray, List.map_cons, List.map_nil, e0]
          kernel_rfl
        · intro _
          refine Inv.StepW.of_call (f := 15) rfl (fun _ _ _ => rfl) (fun a w' hC hdep hfix => ?_)
          have e0 : a.eval (.tmp 83) = .string (strOf (List.replicate 12 48)) := hdep 3 _ 83 rfl rfl (by kernel_rfl)
          refine ⟨#[.string (strOf (List.replicate 12 48))], w', (by simp only [execOp, resolve, List.map_toArray, List.map_cons, List.map_nil, e0]; kernel_rfl), (file_lit (strOf (List.replicate 12 48)) w').mono ?_⟩
          rintro e w2 ⟨rfl, hb2⟩
          exact ⟨_, rfl, hC.step hb2, rfl, fun _ _ h => RX.below h hb2⟩
        · intro _
          refine Inv.StepW.of_run rfl (fun _ _ _ => rfl) ⟨fun a w' hC hdep hfix => ?_⟩
          have e0 : a.eval (.tmp 81) = .string (strOf (List.replicate 20 48)) := hdep 1 _ 81 rfl rfl (by kernel_rfl)
          have e1 : a.eval (.tmp 84) = .agg #[.int .u8 1, .string (strOf (List.replicate 12 48)), .slice none 0 0] := hdep 4 _ 84 rfl rfl (by kernel_rfl)
          refine ⟨.agg #[.string (strOf (List.replicate 20 48)), .int .u8 1, .string (strOf (List.replicate 12 48)), .slice none 0 0], w', ?_, hC, rfl, fun _ _ h => h⟩
          simp only [execOp, List.map_toArray, List.map_cons, List.map_nil, e0, e1]
          kernel_rfl
        · intro _
          refine Inv.StepW.of_run rfl (fun _ _ _ => rfl) ⟨fun a w' hC hdep hfix => ?_⟩
          have e0 : a.eval (.tmp 1) = .string (strOf (List.replicate 32 48)) := (hfix 1 (by decide)).trans rfl
          refine ⟨.string (strOf (List.replicate 32 48)), w', ?_, hC, rfl, fun _ _ h => h⟩
          simp only [execOp, List.map_toArray, List.map_cons, List.map_nil, e0]
          kernel_rfl
        · intro _
          refine Inv.StepW.of_run rfl (fun _ _ _ => rfl) ⟨fun a w' hC hdep hfix => ?_⟩
          have e0 : a.eval (.tmp 86) = .string (strOf (List.replicate 32 48)) := hdep 6 _ 86 rfl rfl (by kernel_rfl)
          refine ⟨.string (strOf (List.replicate 16 48)), w', ?_, hC, rfl, fun _ _ h => h⟩
          simp only [execOp, List.map_toArray, List.map_cons, List.map_nil, e0]
          kernel_rfl
        · intro _
          refine Inv.StepW.of_run rfl (fun _ _ _ => rfl) ⟨fun a w' hC hdep hfix => ?_⟩
          have e0 : a.eval (.tmp 87) = .string (strOf (List.replicate 16 48)) := hdep 7 _ 87 rfl rfl (by kernel_rfl)
          refine ⟨.string (strOf (List.replicate 16 48 ++ [49])), w', ?_, hC, rfl, fun _ _ h => h⟩
          simp only [execOp, List.map_toArray, List.map_cons, List.map_nil, e0]
          kernel_rfl
        · intro _
          refine Inv.StepW.of_run rfl (fun _ _ _ => rfl) ⟨fun a w' hC hdep hfix => ?_⟩
          have e0 : a.eval (.tmp 1) = .string (strOf (List.replicate 32 48)) := (hfix 1 (by decide)).trans rfl
          refine ⟨.string (strOf (List.replicate 32 48)), w', ?_, hC, rfl, fun _ _ h => h⟩
          simp only [execOp, List.map_toArray, List.map_cons, List.map_nil, e0]
          kernel_rfl
        · intro _
          refine Inv.StepW.of_run rfl (fun _ _ _ => rfl) ⟨fun a w' hC hdep hfix => ?_⟩
          have e0 : a.eval (.tmp 89) = .string (strOf (List.replicate 32 48)) := hdep 9 _ 89 rfl rfl (by kernel_rfl)
          refine ⟨.string (strOf (List.replicate 31 48)), w', ?_, hC, rfl, fun _ _ h => h⟩
          simp only [execOp, List.map_toArray, List.map_cons, List.map_nil, e0]
          kernel_rfl
        · intro _
          refine Inv.StepW.of_call (f := 15) rfl (fun _ _ _ => rfl) (fun a w' hC hdep hfix => ?_)
          have e0 : a.eval (.tmp 90) = .string (strOf (List.replicate 31 48)) := hdep 10 _ 90 rfl rfl (by kernel_rfl)
          refine ⟨#[.string (strOf (List.replicate 31 48))], w', (by simp only [execOp, resolve, List.map_toArray, List.map_cons, List.map_nil, e0]; kernel_rfl), (file_lit (strOf (List.replicate 31 48)) w').mono ?_⟩
          rintro e w2 ⟨rfl, hb2⟩
          exact ⟨_, rfl, hC.step hb2, rfl, fun _ _ h => RX.below h hb2⟩
        · intro _
          refine Inv.StepW.of_run rfl (fun _ _ _ => rfl) ⟨fun a w' hC hdep hfix => ?_⟩
          have e0 : a.eval (.tmp 88) = .string (strOf (List.replicate 16 48 ++ [49])) := hdep 8 _ 88 rfl rfl (by kernel_rfl)
          have e1 : a.eval (.tmp 91) = .agg #[.int .u8 1, .string (strOf (List.replicate 31 48)), .slice none 0 0] := hdep 11 _ 91 rfl rfl (by kernel_rfl)
          refine ⟨.agg #[.string (strOf (List.replicate 16 48 ++ [49])), .int .u8 1, .string (strOf (List.replicate 31 48)), .slice none 0 0], w', ?_, hC, rfl, fun _ _ h => h⟩
          simp only [execOp, List.map_toArray, List.map_cons, List.map_nil, e0, e1]
          kernel_rfl
        · intro _
          refine Inv.StepW.of_run rfl (fun _ _ _ => rfl) ⟨fun a w' hC hdep hfix => ?_⟩
          have e0 : a.eval (.tmp 85) = .agg #[.string (strOf (List.replicate 20 48)), .int .u8 1, .string (strOf (List.replicate 12 48)), .slice none 0 0] := hdep 5 _ 85 rfl rfl (by kernel_rfl)
          have e1 : a.eval (.tmp 92) = .agg #[.string (strOf (List.replicate 16 48 ++ [49])), .int .u8 1, .string (strOf (List.replicate 31 48)), .slice none 0 0] := hdep 12 _ 92 rfl rfl (by kernel_rfl)
          have hba : Below w'.heap.size w' (w'.alloc (.cells cE13 43)) := (Below.refl _ _).alloc (Nat.le_refl _) _
          refine ⟨.slice (some ⟨w'.heap.size, 0, none⟩) 2 2, w'.alloc (.cells cE13 43), ?_, hC.alloc _, ⟨_, rfl, heap_alloc_new w' _⟩, fun _ _ h => RX.below h hba⟩
          unfold execOp
          simp only [List.map_toArray, List.map_cons, List.map_nil, e0, e1]
          kernel_rfl
        · intro _
          refine Inv.StepW.of_run rfl (fun _ _ _ => rfl) ⟨fun a w' hC hdep hfix => ?_⟩
          obtain ⟨r, e0, hr⟩ : ∃ r, a.eval (.tmp 93) = .slice (some ⟨r, 0, none⟩) 2 2 ∧ w'.heap[r]? = some (.cells cE13 43 (0, 0)) := hdep 13 _ 93 rfl rfl (by kernel_rfl)
          refine ⟨.agg #[.int .u8 4, .string ⟨#[]⟩, .slice (some ⟨r, 0, none⟩) 2 2], w', ?_, hC, ⟨r, rfl, hr⟩, fun _ _ h => h⟩
          simp only [execOp, List.map_toArray, List.map_cons, List.map_nil, e0]
          kernel_rfl
        · intro _
          refine Inv.StepW.of_run rfl (fun _ _ _ => rfl) ⟨fun a w' hC hdep hfix => ?_⟩
          have hba : Below w'.heap.size w' (w'.alloc (.cells #[.int .u8 0, .string ⟨#[]⟩, .slice none 0 0] 40)) := (Below.refl _ _).alloc (Nat.le_refl _) _
          refine ⟨.pointer (some ⟨w'.heap.size, 0, none⟩), w'.alloc (.cells #[.int .u8 0, .string ⟨#[]⟩, .slice none 0 0] 40), ?_, hC.alloc _, ⟨_, rfl, hC.2, heap_alloc_new w' _⟩, fun _ _ h => RX.below h hba⟩
          kernel_rfl
        · exact fun h => absurd rfl h
      obtain ⟨g7, hv7, hg7, hb7⟩ : RX wr.heap.size .box (f 7) w5 := hR 15 _ 7 rfl rfl
      obtain ⟨r7, hv94, hr7⟩ : RX wr.heap.size .nde (f 94) w5 := hR 14 _ 94 rfl rfl
      rw [← HTZ.out]
      simp only [Inv.dsts, List.filterMap_cons, List.filterMap_nil, List.foldl_cons, List.foldl_nil, Act.put, List.setIfInBounds_toArray, List.set_cons_succ, List.set_cons_zero]
      rw [hv7, hv94]
      refine Inv.wpOp_of rfl rfl (wp_store_row 40 _ _ rfl g7 #[.int .u8 4, .string ⟨#[]⟩, .slice (some ⟨r7, 0, none⟩) 2 2] rfl rfl 40 _ hb7 (by kernel_rfl) rfl (by simp [Value.oneCell']) (hK _ _ ?_))
      have hrg : r7 ≠ g7 := fun e => by rw [e, hb7] at hr7; cases hr7
      have hB6 : Below w.heap.size w (w5.setRow g7 #[.int .u8 4, .string ⟨#[]⟩, .slice (some ⟨r7, 0, none⟩) 2 2]) := below_setRow (below_step HB.out hC.1 HB.out.size) (Nat.le_trans HB.out.size hg7) _
      have hx6 : BoxP (w5.setRow g7 #[.int .u8 4, .string ⟨#[]⟩, .slice (some ⟨r7, 0, none⟩) 2 2]) g7 dirN := by
        refine ⟨some ⟨r7, 0, none⟩, 2, setRow_heap _ _ _ _ _ _ hb7, ?_, by decide, by decide⟩
        exact dir_at ((setRow_other _ _ _ _ hrg).trans hr7)
      have HB6 := Lib.hid hB6
      have HX7 := Lib.hid hx6
      generalize w5.setRow g7 #[.int .u8 4, .string ⟨#[]⟩, .slice (some ⟨r7, 0, none⟩) 2 2] = w6 at *
      clear hB6 hx6 hC hR hv7 hv94 hb7 hr7 hK hrg
      have hn3 : ¬ 9223372036854775807 < 3 + tn.size := by omega
      have hFE := Lib.hid (file_lit ⟨#[]⟩ w6)
      go_upto_region 17 with (go_at_call 15; refine hFE.out.mono ?_; rintro e w7 ⟨rfl, hb7⟩)
      obtain ⟨W8, e8, p8, p9, p10, hb8⟩ := four_at w7 tn tz (by omega) (by omega)
      rw [← e8]
      have hb68 : Below w6.heap.size w6 W8 := hb7.trans (hb8.mono hb7.size)
      have HB8 := Lib.hid (below_step HB6.out hb68 HB6.out.size)
      obtain ⟨A7, c7, x70, x71, x72, v7, b7⟩ := (HX7.out.keep hb68).cells
      obtain ⟨A8, c8, x80, x81, x82, v8, b8⟩ := p8.cells
      obtain ⟨A9, c9, x90, x91, x92, v9, b9⟩ := p9.cells
      obtain ⟨A10, c10, x100, x101, x102, v10, b10⟩ := p10.cells
      have HWE := Lib.hid (show weiN dirN ≤ 800 ∧ weiN (namedN tn) ≤ 800 ∧ weiN (linkN tn) ≤ 800 ∧ weiN (badN tz) ≤ 800 by
        refine ⟨by decide +kernel, ?_, ?_, ?_⟩
        · show 1 + 0 + (tn.size + (1 + 0 + 0) + 0) ≤ 800; omega
        · show 1 + (ByteArray.mk #[46, 46, 47] ++ tn).size + 0 ≤ 800; rw [ByteArray.size_append, show (ByteArray.mk #[46, 46, 47]).size = 3 from rfl]; omega
        · show 1 + tz.size + 0 ≤ 800; omega)
      have HBX := Lib.hid (And.intro b7 (And.intro b8 (And.intro b9 b10)))
      have HVV := Lib.hid (And.intro v7 (And.intro v8 (And.intro v9 v10)))
      obtain ⟨nd7, hnd7⟩ : ∃ nd, nd = dirN := ⟨_, rfl⟩
      obtain ⟨nd8, hnd8⟩ : ∃ nd, nd = namedN tn := ⟨_, rfl⟩
      obtain ⟨nd9, hnd9⟩ : ∃ nd, nd = linkN tn := ⟨_, rfl⟩
      obtain ⟨nd10, hnd10⟩ : ∃ nd, nd = badN tz := ⟨_, rfl⟩
      rw [← hnd7] at x70 x71 x72 HWE HBX HVV
      rw [← hnd8] at x80 x81 x82 HWE HBX HVV
      rw [← hnd9] at x90 x91 x92 HWE HBX HVV
      rw [← hnd10] at x100 x101 x102 HWE HBX HVV
      have HND := Lib.hid (And.intro hnd7 (And.intro hnd8 hnd9))
      clear hb7 hb8 hb68 p8 p9 p10 e8 b7 b8 b9 b10 v7 v8 v9 v10 hnd7 hnd8 hnd9 hnd10 hn3 hFE
      generalize w7.heap.size + 1 + 1 + 1 = g10 at *
      generalize w7.heap.size + 1 + 1 = g9 at *
      generalize w7.heap.size + 1 = g8 at *
      go_upto_region 18 with (fail)
      have hF := five_at (W := W8) (W' := W8.alloc (.cells #[.int .u8 (nd7.k : Int), .string nd7.d, .slice A7 nd7.es.len c7, .int .u8 (nd8.k : Int), .string nd8.d, .slice A8 nd8.es.len c8, .int .u8 (nd9.k : Int), .string nd9.d, .slice A9 nd9.es.len c9, .int .u8 (nd10.k : Int), .string nd10.d, .slice A10 nd10.es.len c10, .int .u8 0, .string ⟨#[]⟩, .slice none 0 0] 40)) nd7 nd8 nd9 nd10 ((Below.refl _ _).alloc (Nat.le_refl _) _) (heap_alloc_new W8 _) HVV.out.1 HVV.out.2.1 HVV.out.2.2.1 HVV.out.2.2.2 HWE.out.1 HWE.out.2.1 HWE.out.2.2.1 HWE.out.2.2.2
      have HFV := Lib.hid hF
      have hb89 : Below W8.heap.size W8 (W8.alloc (.cells #[.int .u8 (nd7.k : Int), .string nd7.d, .slice A7 nd7.es.len c7, .int .u8 (nd8.k : Int), .string nd8.d, .slice A8 nd8.es.len c8, .int .u8 (nd9.k : Int), .string nd9.d, .slice A9 nd9.es.len c9, .int .u8 (nd10.k : Int), .string nd10.d, .slice A10 nd10.es.len c10, .int .u8 0, .string ⟨#[]⟩, .slice none 0 0] 40)) := (Below.refl _ _).alloc (Nat.le_refl _) _
      have H89 := Lib.hid hb89
      have HB9 := Lib.hid (below_step HB8.out hb89 HB8.out.size)
      generalize W8.alloc (.cells #[.int .u8 (nd7.k : Int), .string nd7.d, .slice A7 nd7.es.len c7, .int .u8 (nd8.k : Int), .string nd8.d, .slice A8 nd8.es.len c8, .int .u8 (nd9.k : Int), .string nd9.d, .slice A9 nd9.es.len c9, .int .u8 (nd10.k : Int), .string nd10.d, .slice A10 nd10.es.len c10, .int .u8 0, .string ⟨#[]⟩, .slice none 0 0] 40) = W9 at *
      clear hF hb89 x70 x71 x72 x80 x81 x82 x90 x91 x92 x100 x101 x102
      generalize hgr : W8.heap.size = gr at HFV ⊢
      clear hgr
      go_loopw [12, 112] (fun u12 u wx => ∃ k : Nat, k ≤ 5 ∧ u = .int .i64 (k : Int) ∧ Hid (Below W9.heap.size W9 wx)) (fun _ u _ => 5 - (intOf u).toNat)
      case atStart => exact ⟨0, by omega, rfl, Lib.hid (Below.refl _ _)⟩
      case round =>
        obtain ⟨k, hk, rfl, HBk⟩ := hrel
        by_cases hlk : k < 5
        · have hk1 : (k : Int) < 5 := by omega
          have hk0 : (0 : Int) ≤ (k : Int) := by omega
          have hw2 : IntKind.i64.wrap ((k : Int) + 1) = (k : Int) + 1 := IntWalk.i64_in _ (by omega)
          obtain ⟨hgl, hfv⟩ := HFV.out
          obtain ⟨nd, A, c, y0, y1, y2, hv, hwe⟩ := hfv k hlk
          have q0 := (HBk.out.cell (p := ⟨gr, k * 3, none⟩) hgl).trans y0
          have q1 := (HBk.out.cell (p := ⟨gr, k * 3 + 1, none⟩) hgl).trans y1
          have q2 := (HBk.out.cell (p := ⟨gr, k * 3 + 2, none⟩) hgl).trans y2
          have hga : (wr.alloc (ndCells nd.k nd.d (.slice A nd.es.len c))).heap[wr.heap.size]? = some (ndCells nd.k nd.d (.slice A nd.es.len c)) := heap_alloc_new _ _
          have hba : Below wr.heap.size wr (wr.alloc (ndCells nd.k nd.d (.slice A nd.es.len c))) := (Below.refl _ _).alloc (Nat.le_refl _) _
          obtain ⟨z0, z1, z2, _⟩ := nd_box hga
          have HVK := Lib.hid ((hv.below HBk.out).below hba)
          clear hfv y0 y1 y2 hv
          go_upto_region 20 with (fail)
          change Code.wp _ _ _ _ (wr.alloc (ndCells nd.k nd.d (.slice A nd.es.len c)))
          generalize wr.alloc (ndCells nd.k nd.d (.slice A nd.es.len c)) = wa at *
          have HBA := Lib.hid (below_step HBk.out hba HBk.out.size)
          clear q0 q1 q2 hga hba
          have hbb : Below wa.heap.size wa (wa.alloc (.cells #[.string tn, .string ⟨#[98]⟩, .string tn] 9)) := (Below.refl _ _).alloc (Nat.le_refl _) _
          have HSC := Lib.hid (scanTree_c _ (.slice (some ⟨wa.heap.size, 0, none⟩) 3 3) nd [tn, ⟨#[98]⟩, tn] _ (wa.alloc (.cells #[.string tn, .string ⟨#[98]⟩, .string tn] 9)) (HVK.out.below hbb) (reads_new wa #[.string tn, .string ⟨#[98]⟩, .string tn] 9 (strs [tn, ⟨#[98]⟩, tn]) rfl (by simp [strs])) (Nat.le_refl _) (show FewT [tn, ⟨#[98]⟩, tn] from ⟨by simp, fun s hs => by
            simp only [List.mem_cons, List.not_mem_nil, or_false] at hs
            rcases hs with rfl | rfl | rfl
            · omega
            · decide
            · omega⟩) hwe)
          have HBB := Lib.hid (below_step HBA.out hbb HBA.out.size)
          go_wp2_with fail
          clear hbb z0 z1 z2
          generalize wa.alloc (.cells #[.string tn, .string ⟨#[98]⟩, .string tn] 9) = wb at *
          refine HSC.out.mono ?_
          rintro e wc ⟨rfl, hbc⟩
          have HBC := Lib.hid (below_step HBB.out hbc HBB.out.size)
          clear hbc HSC
          go_wp2
          go_roundw
          case rel => exact ⟨k + 1, by omega, by go_num, HBC⟩
          case measure => simp [intOf]; omega
        · have hk1 : ¬ (k : Int) < 5 := by omega
          go_upto_region 23 with (fail)
          rw [HTZ.out]
          obtain ⟨V7, hV7⟩ : ∃ V, V = Value.agg #[.int .u8 (nd7.k : Int), .string nd7.d, .slice A7 nd7.es.len c7] := ⟨_, rfl⟩
          obtain ⟨V8, hV8⟩ : ∃ V, V = Value.agg #[.int .u8 (nd8.k : Int), .string nd8.d, .slice A8 nd8.es.len c8] := ⟨_, rfl⟩
          obtain ⟨V9, hV9⟩ : ∃ V, V = Value.agg #[.int .u8 (nd9.k : Int), .string nd9.d, .slice A9 nd9.es.len c9] := ⟨_, rfl⟩
          have HBW := Lib.hid (below_step HB9.out HBk.out HB9.out.size)
          have HK8 := Lib.hid (fun (w' : World) (hC : KeepW wr wr.heap.size w') => show Below W8.heap.size W8 w' from below_step (below_step H89.out HBk.out H89.out.size) hC.1 (Nat.le_trans H89.out.size HBk.out.size))
          have HLD7 := Lib.hid (fun (w' : World) (hC : KeepW wr wr.heap.size w') => show (loadVar 40 ⟨g7, 0, none⟩).run Try.prog w' = .ok V7 w' from by rw [hV7]; exact load_node (((HK8.out w' hC).block _ (block_lt HBX.out.1)).trans HBX.out.1))
          have HLD8 := Lib.hid (fun (w' : World) (hC : KeepW wr wr.heap.size w') => show (loadVar 40 ⟨g8, 0, none⟩).run Try.prog w' = .ok V8 w' from by rw [hV8]; exact load_node (((HK8.out w' hC).block _ (block_lt HBX.out.2.1)).trans HBX.out.2.1))
          have HLD9 := Lib.hid (fun (w' : World) (hC : KeepW wr wr.heap.size w') => show (loadVar 40 ⟨g9, 0, none⟩).run Try.prog w' = .ok V9 w' from by rw [hV9]; exact load_node (((HK8.out w' hC).block _ (block_lt HBX.out.2.2.1)).trans HBX.out.2.2.1))
          have HNV7 := Lib.hid (fun (w' : World) (hC : KeepW wr wr.heap.size w') => show NdV w' w'.heap.size V7 nd7 from by rw [hV7]; exact HVV.out.1.below (HK8.out w' hC))
          have HNV8 := Lib.hid (fun (w' : World) (hC : KeepW wr wr.heap.size w') => show NdV w' w'.heap.size V8 nd8 from by rw [hV8]; exact HVV.out.2.1.below (HK8.out w' hC))
          have HNV9 := Lib.hid (fun (w' : World) (hC : KeepW wr wr.heap.size w') => show NdV w' w'.heap.size V9 nd9 from by rw [hV9]; exact HVV.out.2.2.1.below (HK8.out w' hC))
          have HSM := Lib.hid (show ∀ l : List ByteArray, (∀ x ∈ l, x = tn) → SmallT l from fun l h s hs => by rw [h s hs]; unfold maxLen; omega)
          have HTL := Lib.hid (show (treeF nd7 [tn]).length = 0 ∧ (treeF nd8 [tn]).length = 1 ∧ (treeF nd9 [tn, tn]).length = 2 by rw [HND.out.1, HND.out.2.1, HND.out.2.2, HTN.out.2]; exact tree_len)
          refine Inv.wp_region_invW (by kernel_rfl) (fun w' => KeepW wr wr.heap.size w') (fun k v w' => RY ((kindsY V7 V8 V9 tn).getD k (.len 99)) v w') (Inv.formW_spec (by kernel_rfl)) (KeepW.start (Nat.le_refl _)).drew (Inv.Each.steps ?_ rfl) (fun f w5 hC hR => ?_)
          · clear hV7 hV8 hV9 HVV HBX HK8
            refine ⟨?_, ?_, ?_, ?_, ?_, ?_, ?_, ?_, ?_, ?_, ?_, ?_, ?_, ?_, ?_, ?_, ?_, ?_, ?_, ?_, ?_, ?_, ?_, ?_, ?_, ?_, ?_, ?_, ?_, ?_, ?_, ?_, ?_, ?_, ?_, ?_, ?_, ?_, ?_, ?_, ?_, trivial⟩
            · refine Inv.StepW.of_run rfl (fun _ _ _ => rfl) ⟨fun a w' hC hdep hfix => ?_⟩
              refine ⟨V7, w', ?_, hC, rfl, fun _ _ h => h⟩
              have e2 : a.eval (.tmp 7) = .pointer (some ⟨g7, 0, none⟩) := (hfix 7 (by decide)).trans rfl
              simp only [execOp, e2, Instr.loadAt, Instr.sureAddr, Sem.run_bind, Sem.run_pure, Result.andThen_ok, HLD7.out w' hC]
            · refine Inv.StepW.of_run rfl (fun _ _ _ => rfl) ⟨fun a w' hC hdep hfix => ?_⟩
              refine ⟨a.eval (.tmp 2), w', rfl, hC, ((hfix 2 (by decide)).trans rfl : RY (.val (.string tn)) (a.eval (.tmp 2)) w'), fun _ _ h => h⟩
            · refine Inv.StepW.of_run rfl (fun _ _ _ => rfl) ⟨fun a w' hC hdep hfix => ?_⟩
              have e0 : a.eval (.tmp 124) = .string tn := hdep 1 _ 124 rfl rfl (by kernel_rfl)
              have hba : Below w'.heap.size w' (w'.alloc (.cells #[.string tn] 9)) := (Below.refl _ _).alloc (Nat.le_refl _) _
              refine ⟨.slice (some ⟨w'.heap.size, 0, none⟩) 1 1, w'.alloc (.cells #[.string tn] 9), ?_, hC.alloc _, reads_new w' #[.string tn] 9 (strs [tn]) rfl (by simp [strs]), fun _ _ h => RY.below h hba⟩
              unfold execOp
              simp only [List.map_toArray, List.map_cons, List.map_nil, e0]
              kernel_rfl
            · refine Inv.StepW.of_call (f := 17) rfl (fun _ _ _ => rfl) (fun a w' hC hdep hfix => ?_)
              have e0 : a.eval (.tmp 123) = V7 := hdep 0 _ 123 rfl rfl (by kernel_rfl)
              have e1 : Reads w' w'.heap.size (a.eval (.tmp 125)) (strs [tn]) := hdep 2 _ 125 rfl rfl (by kernel_rfl)
              refine ⟨#[a.eval (.tmp 123), a.eval (.tmp 125)], w', (by simp only [execOp, resolve, List.map_toArray, List.map_cons, List.map_nil]; kernel_rfl), ?_⟩
              rw [e0]
              refine (tree_c V7 _ nd7 [tn] _ w' (HNV7.out w' hC) e1 (Nat.le_refl _) (HSM.out _ (by simp)) (by simp) (by have := HWE.out; omega)).mono ?_
              rintro e w2 ⟨hb2, v2, rfl, ho2⟩
              exact ⟨_, rfl, hC.step hb2, ⟨_, HTL.out.1, Reads.own ho2⟩, fun _ _ h => RY.below h hb2⟩
            · refine Inv.StepW.of_run rfl (fun _ _ _ => rfl) ⟨fun a w' hC hdep hfix => ?_⟩
              obtain ⟨xs0, hx0, e0⟩ : ∃ xs : List ByteArray, xs.length = 0 ∧ Reads w' w'.heap.size (a.eval (.tmp 126)) (strs xs) := hdep 3 _ 126 rfl rfl (by kernel_rfl)
              obtain ⟨A2, c2, e2, _⟩ := e0
              rw [strs_len, hx0] at e2
              refine ⟨.int .i64 0, w', ?_, hC, rfl, fun _ _ h => h⟩
              simp only [execOp, resolve, List.map_toArray, List.map_cons, List.map_nil, e2]
              kernel_rfl
            · refine Inv.StepW.of_run rfl (fun _ _ _ => rfl) ⟨fun a w' hC hdep hfix => ?_⟩
              have e0 : a.eval (.tmp 127) = .int .i64 0 := hdep 4 _ 127 rfl rfl (by kernel_rfl)
              refine ⟨.bool true, w', ?_, hC, rfl, fun _ _ h => h⟩
              simp only [execOp, List.map_toArray, List.map_cons, List.map_nil, e0]
              kernel_rfl
            · refine Inv.StepW.of_run rfl (fun _ _ _ => rfl) ⟨fun a w' hC hdep hfix => ?_⟩
              refine ⟨a.eval (.tmp 128), w', rfl, hC, (hdep 5 _ 128 rfl rfl (by kernel_rfl) : RY (.val (.bool true)) (a.eval (.tmp 128)) w'), fun _ _ h => h⟩
            · refine Inv.StepW.of_run rfl (fun a w' hdep => wanted_of (j := 6) (b := true) (d := 129) rfl rfl rfl (hdep 6 _ 129 rfl rfl (by kernel_rfl))) ⟨fun a w' hC hdep hfix => ?_⟩
              refine ⟨V8, w', ?_, hC, rfl, fun _ _ h => h⟩
              have e2 : a.eval (.tmp 8) = .pointer (some ⟨g8, 0, none⟩) := (hfix 8 (by decide)).trans rfl
              simp only [execOp, e2, Instr.loadAt, Instr.sureAddr, Sem.run_bind, Sem.run_pure, Result.andThen_ok, HLD8.out w' hC]
            · refine Inv.StepW.of_run rfl (fun a w' hdep => wanted_of (j := 6) (b := true) (d := 129) rfl rfl rfl (hdep 6 _ 129 rfl rfl (by kernel_rfl))) ⟨fun a w' hC hdep hfix => ?_⟩
              refine ⟨a.eval (.tmp 2), w', rfl, hC, ((hfix 2 (by decide)).trans rfl : RY (.val (.string tn)) (a.eval (.tmp 2)) w'), fun _ _ h => h⟩
            · refine Inv.StepW.of_run rfl (fun a w' hdep => wanted_of (j := 6) (b := true) (d := 129) rfl rfl rfl (hdep 6 _ 129 rfl rfl (by kernel_rfl))) ⟨fun a w' hC hdep hfix => ?_⟩
              have e0 : a.eval (.tmp 131) = .string tn := hdep 8 _ 131 rfl rfl (by kernel_rfl)
              have hba : Below w'.heap.size w' (w'.alloc (.cells #[.string tn] 9)) := (Below.refl _ _).alloc (Nat.le_refl _) _
              refine ⟨.slice (some ⟨w'.heap.size, 0, none⟩) 1 1, w'.alloc (.cells #[.string tn] 9), ?_, hC.alloc _, reads_new w' #[.string tn] 9 (strs [tn]) rfl (by simp [strs]), fun _ _ h => RY.below h hba⟩
              unfold execOp
              simp only [List.map_toArray, List.map_cons, List.map_nil, e0]
              kernel_rfl
            · refine Inv.StepW.of_call (f := 17) rfl (fun a w' hdep => wanted_of (j := 6) (b := true) (d := 129) rfl rfl rfl (hdep 6 _ 129 rfl rfl (by kernel_rfl))) (fun a w' hC hdep hfix => ?_)
              have e0 : a.eval (.tmp 130) = V8 := hdep 7 _ 130 rfl rfl (by kernel_rfl)
              have e1 : Reads w' w'.heap.size (a.eval (.tmp 132)) (strs [tn]) := hdep 9 _ 132 rfl rfl (by kernel_rfl)
              refine ⟨#[a.eval (.tmp 130), a.eval (.tmp 132)], w', (by simp only [execOp, resolve, List.map_toArray, List.map_cons, List.map_nil]; kernel_rfl), ?_⟩
              rw [e0]
              refine (tree_c V8 _ nd8 [tn] _ w' (HNV8.out w' hC) e1 (Nat.le_refl _) (HSM.out _ (by simp)) (by simp) (by have := HWE.out; omega)).mono ?_
              rintro e w2 ⟨hb2, v2, rfl, ho2⟩
              exact ⟨_, rfl, hC.step hb2, ⟨_, HTL.out.2.1, Reads.own ho2⟩, fun _ _ h => RY.below h hb2⟩
            · refine Inv.StepW.of_run rfl (fun a w' hdep => wanted_of (j := 6) (b := true) (d := 129) rfl rfl rfl (hdep 6 _ 129 rfl rfl (by kernel_rfl))) ⟨fun a w' hC hdep hfix => ?_⟩
              obtain ⟨xs0, hx0, e0⟩ : ∃ xs : List ByteArray, xs.length = 1 ∧ Reads w' w'.heap.size (a.eval (.tmp 133)) (strs xs) := hdep 10 _ 133 rfl rfl (by kernel_rfl)
              obtain ⟨A2, c2, e2, _⟩ := e0
              rw [strs_len, hx0] at e2
              refine ⟨.int .i64 1, w', ?_, hC, rfl, fun _ _ h => h⟩
              simp only [execOp, resolve, List.map_toArray, List.map_cons, List.map_nil, e2]
              kernel_rfl
            · refine Inv.StepW.of_run rfl (fun a w' hdep => wanted_of (j := 6) (b := true) (d := 129) rfl rfl rfl (hdep 6 _ 129 rfl rfl (by kernel_rfl))) ⟨fun a w' hC hdep hfix => ?_⟩
              have e0 : a.eval (.tmp 134) = .int .i64 1 := hdep 11 _ 134 rfl rfl (by kernel_rfl)
              refine ⟨.bool true, w', ?_, hC, rfl, fun _ _ h => h⟩
              simp only [execOp, List.map_toArray, List.map_cons, List.map_nil, e0]
              kernel_rfl
            · refine Inv.StepW.of_run rfl (fun _ _ _ => rfl) ⟨fun a w' hC hdep hfix => ?_⟩
              have e0 : a.eval (.tmp 129) = .bool true := hdep 6 _ 129 rfl rfl (by kernel_rfl)
              have e1 : a.eval (.tmp 135) = .bool true := hdep 12 _ 135 rfl rfl (by kernel_rfl)
              refine ⟨.bool true, w', ?_, hC, rfl, fun _ _ h => h⟩
              simp only [execOp, List.map_toArray, List.map_cons, List.map_nil, e0, e1]
              kernel_rfl
            · refine Inv.StepW.of_run rfl (fun _ _ _ => rfl) ⟨fun a w' hC hdep hfix => ?_⟩
              refine ⟨a.eval (.tmp 136), w', rfl, hC, (hdep 13 _ 136 rfl rfl (by kernel_rfl) : RY (.val (.bool true)) (a.eval (.tmp 136)) w'), fun _ _ h => h⟩
            · refine Inv.StepW.of_run rfl (fun a w' hdep => wanted_of (j := 14) (b := true) (d := 137) rfl rfl rfl (hdep 14 _ 137 rfl rfl (by kernel_rfl))) ⟨fun a w' hC hdep hfix => ?_⟩
              refine ⟨V9, w', ?_, hC, rfl, fun _ _ h => h⟩
              have e2 : a.eval (.tmp 9) = .pointer (some ⟨g9, 0, none⟩) := (hfix 9 (by decide)).trans rfl
              simp only [execOp, e2, Instr.loadAt, Instr.sureAddr, Sem.run_bind, Sem.run_pure, Result.andThen_ok, HLD9.out w' hC]
            · refine Inv.StepW.of_run rfl (fun a w' hdep => wanted_of (j := 14) (b := true) (d := 137) rfl rfl rfl (hdep 14 _ 137 rfl rfl (by kernel_rfl))) ⟨fun a w' hC hdep hfix => ?_⟩
              refine ⟨a.eval (.tmp 2), w', rfl, hC, ((hfix 2 (by decide)).trans rfl : RY (.val (.string tn)) (a.eval (.tmp 2)) w'), fun _ _ h => h⟩
            · refine Inv.StepW.of_run rfl (fun a w' hdep => wanted_of (j := 14) (b := true) (d := 137) rfl rfl rfl (hdep 14 _ 137 rfl rfl (by kernel_rfl))) ⟨fun a w' hC hdep hfix => ?_⟩
              refine ⟨a.eval (.tmp 2), w', rfl, hC, ((hfix 2 (by decide)).trans rfl : RY (.val (.string tn)) (a.eval (.tmp 2)) w'), fun _ _ h => h⟩
            · refine Inv.StepW.of_run rfl (fun a w' hdep => wanted_of (j := 14) (b := true) (d := 137) rfl rfl rfl (hdep 14 _ 137 rfl rfl (by kernel_rfl))) ⟨fun a w' hC hdep hfix => ?_⟩
              have e0 : a.eval (.tmp 139) = .string tn := hdep 16 _ 139 rfl rfl (by kernel_rfl)
              have e1 : a.eval (.tmp 140) = .string tn := hdep 17 _ 140 rfl rfl (by kernel_rfl)
              have hba : Below w'.heap.size w' (w'.alloc (.cells #[.string tn, .string tn] 9)) := (Below.refl _ _).alloc (Nat.le_refl _) _
              refine ⟨.slice (some ⟨w'.heap.size, 0, none⟩) 2 2, w'.alloc (.cells #[.string tn, .string tn] 9), ?_, hC.alloc _, reads_new w' #[.string tn, .string tn] 9 (strs [tn, tn]) rfl (by simp [strs]), fun _ _ h => RY.below h hba⟩
              unfold execOp
              simp only [List.map_toArray, List.map_cons, List.map_nil, e0, e1]
              kernel_rfl
            · refine Inv.StepW.of_call (f := 17) rfl (fun a w' hdep => wanted_of (j := 14) (b := true) (d := 137) rfl rfl rfl (hdep 14 _ 137 rfl rfl (by kernel_rfl))) (fun a w' hC hdep hfix => ?_)
              have e0 : a.eval (.tmp 138) = V9 := hdep 15 _ 138 rfl rfl (by kernel_rfl)
              have e1 : Reads w' w'.heap.size (a.eval (.tmp 141)) (strs [tn, tn]) := hdep 18 _ 141 rfl rfl (by kernel_rfl)
              refine ⟨#[a.eval (.tmp 138), a.eval (.tmp 141)], w', (by simp only [execOp, resolve, List.map_toArray, List.map_cons, List.map_nil]; kernel_rfl), ?_⟩
              rw [e0]
              refine (tree_c V9 _ nd9 [tn, tn] _ w' (HNV9.out w' hC) e1 (Nat.le_refl _) (HSM.out _ (by simp)) (by simp) (by have := HWE.out; omega)).mono ?_
              rintro e w2 ⟨hb2, v2, rfl, ho2⟩
              exact ⟨_, rfl, hC.step hb2, ⟨_, HTL.out.2.2, Reads.own ho2⟩, fun _ _ h => RY.below h hb2⟩
            · refine Inv.StepW.of_run rfl (fun a w' hdep => wanted_of (j := 14) (b := true) (d := 137) rfl rfl rfl (hdep 14 _ 137 rfl rfl (by kernel_rfl))) ⟨fun a w' hC hdep hfix => ?_⟩
              obtain ⟨xs0, hx0, e0⟩ : ∃ xs : List ByteArray, xs.length = 2 ∧ Reads w' w'.heap.size (a.eval (.tmp 142)) (strs xs) := hdep 19 _ 142 rfl rfl (by kernel_rfl)
              obtain ⟨A2, c2, e2, _⟩ := e0
              rw [strs_len, hx0] at e2
              refine ⟨.int .i64 2, w', ?_, hC, rfl, fun _ _ h => h⟩
              simp only [execOp, resolve, List.map_toArray, List.map_cons, List.map_nil, e2]
              kernel_rfl
            · refine Inv.StepW.of_run rfl (fun a w' hdep => wanted_of (j := 14) (b := true) (d := 137) rfl rfl rfl (hdep 14 _ 137 rfl rfl (by kernel_rfl))) ⟨fun a w' hC hdep hfix => ?_⟩
              have e0 : a.eval (.tmp 143) = .int .i64 2 := hdep 20 _ 143 rfl rfl (by kernel_rfl)
              refine ⟨.bool true, w', ?_, hC, rfl, fun _ _ h => h⟩
              simp only [execOp, List.map_toArray, List.map_cons, List.map_nil, e0]
              kernel_rfl
            · refine Inv.StepW.of_run rfl (fun _ _ _ => rfl) ⟨fun a w' hC hdep hfix => ?_⟩
              have e0 : a.eval (.tmp 137) = .bool true := hdep 14 _ 137 rfl rfl (by kernel_rfl)
              have e1 : a.eval (.tmp 144) = .bool true := hdep 21 _ 144 rfl rfl (by kernel_rfl)
              refine ⟨.bool true, w', ?_, hC, rfl, fun _ _ h => h⟩
              simp only [execOp, List.map_toArray, List.map_cons, List.map_nil, e0, e1]
              kernel_rfl
            · refine Inv.StepW.of_run rfl (fun _ _ _ => rfl) ⟨fun a w' hC hdep hfix => ?_⟩
              refine ⟨a.eval (.tmp 145), w', rfl, hC, (hdep 22 _ 145 rfl rfl (by kernel_rfl) : RY (.val (.bool true)) (a.eval (.tmp 145)) w'), fun _ _ h => h⟩
            · refine Inv.StepW.of_run rfl (fun a w' hdep => wanted_of (j := 23) (b := true) (d := 146) rfl rfl rfl (hdep 23 _ 146 rfl rfl (by kernel_rfl))) ⟨fun a w' hC hdep hfix => ?_⟩
              refine ⟨a.eval (.tmp 1), w', rfl, hC, ((hfix 1 (by decide)).trans rfl : RY (.val (.string (strOf (List.replicate 32 48)))) (a.eval (.tmp 1)) w'), fun _ _ h => h⟩
            · refine Inv.StepW.of_run rfl (fun a w' hdep => wanted_of (j := 23) (b := true) (d := 146) rfl rfl rfl (hdep 23 _ 146 rfl rfl (by kernel_rfl))) ⟨fun a w' hC hdep hfix => ?_⟩
              have e0 : a.eval (.tmp 147) = .string (strOf (List.replicate 32 48)) := hdep 24 _ 147 rfl rfl (by kernel_rfl)
              refine ⟨.string (strOf (List.replicate 20 48)), w', ?_, hC, rfl, fun _ _ h => h⟩
              simp only [execOp, List.map_toArray, List.map_cons, List.map_nil, e0]
              kernel_rfl
            · refine Inv.StepW.of_run rfl (fun a w' hdep => wanted_of (j := 23) (b := true) (d := 146) rfl rfl rfl (hdep 23 _ 146 rfl rfl (by kernel_rfl))) ⟨fun a w' hC hdep hfix => ?_⟩
              have e0 : a.eval (.tmp 148) = .string (strOf (List.replicate 20 48)) := hdep 25 _ 148 rfl rfl (by kernel_rfl)
              obtain ⟨A2, c2, w2, hcv, hb2, hbt⟩ := bytes_conv w' (List.replicate 20 48) (by decide)
              rw [show (List.replicate 20 (48 : UInt8)).length = 20 from by decide] at hcv
              refine ⟨.slice A2 20 c2, w2, ?_, hC.step hb2, hbt, fun _ _ h => RY.below h hb2⟩
              simp only [execOp, e0]
              simp only [hcv, Sem.run_bind, Sem.run_map, Result.andThen]
              rfl
            · refine Inv.StepW.of_run rfl (fun a w' hdep => wanted_of (j := 23) (b := true) (d := 146) rfl rfl rfl (hdep 23 _ 146 rfl rfl (by kernel_rfl))) ⟨fun a w' hC hdep hfix => ?_⟩
              refine ⟨a.eval (.tmp 1), w', rfl, hC, ((hfix 1 (by decide)).trans rfl : RY (.val (.string (strOf (List.replicate 32 48)))) (a.eval (.tmp 1)) w'), fun _ _ h => h⟩
            · refine Inv.StepW.of_run rfl (fun a w' hdep => wanted_of (j := 23) (b := true) (d := 146) rfl rfl rfl (hdep 23 _ 146 rfl rfl (by kernel_rfl))) ⟨fun a w' hC hdep hfix => ?_⟩
              have e0 : a.eval (.tmp 150) = .string (strOf (List.replicate 32 48)) := hdep 27 _ 150 rfl rfl (by kernel_rfl)
              refine ⟨.string (strOf (List.replicate 12 48)), w', ?_, hC, rfl, fun _ _ h => h⟩
              simp only [execOp, List.map_toArray, List.map_cons, List.map_nil, e0]
              kernel_rfl
            · refine Inv.StepW.of_run rfl (fun a w' hdep => wanted_of (j := 23) (b := true) (d := 146) rfl rfl rfl (hdep 23 _ 146 rfl rfl (by kernel_rfl))) ⟨fun a w' hC hdep hfix => ?_⟩
              have e0 : a.eval (.tmp 151) = .string (strOf (List.replicate 12 48)) := hdep 28 _ 151 rfl rfl (by kernel_rfl)
              obtain ⟨A2, c2, w2, hcv, hb2, hbt⟩ := bytes_conv w' (List.replicate 12 48) (by decide)
              rw [show (List.replicate 12 (48 : UInt8)).length = 12 from by decide] at hcv
              refine ⟨.slice A2 12 c2, w2, ?_, hC.step hb2, hbt, fun _ _ h => RY.below h hb2⟩
              simp only [execOp, e0]
              simp only [hcv, Sem.run_bind, Sem.run_map, Result.andThen]
              rfl
            · refine Inv.StepW.of_run rfl (fun a w' hdep => wanted_of (j := 23) (b := true) (d := 146) rfl rfl rfl (hdep 23 _ 146 rfl rfl (by kernel_rfl))) ⟨fun a w' hC hdep hfix => ?_⟩
              refine ⟨.agg #[.int .u8 9, .int .u8 0, .int .u8 0, .int .u8 0, .int .u8 0, .int .u8 0, .int .u8 0, .int .u8 0, .int .u8 0, .int .u8 0, .int .u8 0, .int .u8 0, .int .u8 0, .int .u8 0, .int .u8 0, .int .u8 0, .int .u8 0, .int .u8 0, .int .u8 0, .int .u8 0, .int .u8 0, .int .u8 0, .int .u8 0, .int .u8 0, .int .u8 0, .int .u8 0, .int .u8 0, .int .u8 0, .int .u8 0, .int .u8 0, .int .u8 0, .int .u8 0], w', ?_, hC, rfl, fun _ _ h => h⟩
              kernel_rfl
            · refine Inv.StepW.of_call (f := 4) rfl (fun a w' hdep => wanted_of (j := 23) (b := true) (d := 146) rfl rfl rfl (hdep 23 _ 146 rfl rfl (by kernel_rfl))) (fun a w' hC hdep hfix => ?_)
              have e0 : BytAt w' w'.heap.size (a.eval (.tmp 149)) (List.replicate 20 48) := hdep 26 _ 149 rfl rfl (by kernel_rfl)
              have e1 : BytAt w' w'.heap.size (a.eval (.tmp 152)) (List.replicate 12 48) := hdep 29 _ 152 rfl rfl (by kernel_rfl)
              have e2 : a.eval (.tmp 153) = .agg #[.int .u8 9, .int .u8 0, .int .u8 0, .int .u8 0, .int .u8 0, .int .u8 0, .int .u8 0, .int .u8 0, .int .u8 0, .int .u8 0, .int .u8 0, .int .u8 0, .int .u8 0, .int .u8 0, .int .u8 0, .int .u8 0, .int .u8 0, .int .u8 0, .int .u8 0, .int .u8 0, .int .u8 0, .int .u8 0, .int .u8 0, .int .u8 0, .int .u8 0, .int .u8 0, .int .u8 0, .int .u8 0, .int .u8 0, .int .u8 0, .int .u8 0, .int .u8 0] := hdep 30 _ 153 rfl rfl (by kernel_rfl)
              refine ⟨#[a.eval (.tmp 149), a.eval (.tmp 152), a.eval (.tmp 153)], w', (by simp only [execOp, resolve, List.map_toArray, List.map_cons, List.map_nil]; kernel_rfl), ?_⟩
              rw [e2]
              refine (scanHolds_walk _ _ _ _ (fun i => if i = 0 then 9 else 0) w' e0 e1 (fun i => by show (if i = 0 then 9 else 0) < 256; split <;> decide)).mono ?_
              rintro e w2 ⟨rfl, hb2⟩
              exact ⟨_, rfl, hC.step hb2, rfl, fun _ _ h => RY.below h hb2⟩
            · refine Inv.StepW.of_run rfl (fun _ _ _ => rfl) ⟨fun a w' hC hdep hfix => ?_⟩
              have e0 : a.eval (.tmp 146) = .bool true := hdep 23 _ 146 rfl rfl (by kernel_rfl)
              have e1 : a.eval (.tmp 154) = .bool true := hdep 31 _ 154 rfl rfl (by kernel_rfl)
              refine ⟨.bool true, w', ?_, hC, rfl, fun _ _ h => h⟩
              simp only [execOp, List.map_toArray, List.map_cons, List.map_nil, e0, e1]
              kernel_rfl
            · refine Inv.StepW.of_run rfl (fun _ _ _ => rfl) ⟨fun a w' hC hdep hfix => ?_⟩
              refine ⟨a.eval (.tmp 155), w', rfl, hC, (hdep 32 _ 155 rfl rfl (by kernel_rfl) : RY (.val (.bool true)) (a.eval (.tmp 155)) w'), fun _ _ h => h⟩
            · refine Inv.StepW.of_run rfl (fun a w' hdep => wanted_of (j := 33) (b := true) (d := 156) rfl rfl rfl (hdep 33 _ 156 rfl rfl (by kernel_rfl))) ⟨fun a w' hC hdep hfix => ?_⟩
              refine ⟨.agg #[.int .u8 0, .int .u8 0, .int .u8 0, .int .u8 0, .int .u8 0, .int .u8 0, .int .u8 0, .int .u8 0, .int .u8 0, .int .u8 0, .int .u8 0, .int .u8 0, .int .u8 0, .int .u8 0, .int .u8 0, .int .u8 0, .int .u8 0, .int .u8 0, .int .u8 0, .int .u8 0, .int .u8 0, .int .u8 0, .int .u8 0, .int .u8 0, .int .u8 0, .int .u8 0, .int .u8 0, .int .u8 0, .int .u8 0, .int .u8 0, .int .u8 0, .int .u8 0], w', ?_, hC, rfl, fun _ _ h => h⟩
              kernel_rfl
            · refine Inv.StepW.of_call (f := 4) rfl (fun a w' hdep => wanted_of (j := 33) (b := true) (d := 156) rfl rfl rfl (hdep 33 _ 156 rfl rfl (by kernel_rfl))) (fun a w' hC hdep hfix => ?_)
              have e0 : a.eval (.tmp 157) = .agg #[.int .u8 0, .int .u8 0, .int .u8 0, .int .u8 0, .int .u8 0, .int .u8 0, .int .u8 0, .int .u8 0, .int .u8 0, .int .u8 0, .int .u8 0, .int .u8 0, .int .u8 0, .int .u8 0, .int .u8 0, .int .u8 0, .int .u8 0, .int .u8 0, .int .u8 0, .int .u8 0, .int .u8 0, .int .u8 0, .int .u8 0, .int .u8 0, .int .u8 0, .int .u8 0, .int .u8 0, .int .u8 0, .int .u8 0, .int .u8 0, .int .u8 0, .int .u8 0] := hdep 34 _ 157 rfl rfl (by kernel_rfl)
              refine ⟨#[.slice none 0 0, .slice none 0 0, a.eval (.tmp 157)], w', (by simp only [execOp, resolve, List.map_toArray, List.map_cons, List.map_nil]; kernel_rfl), ?_⟩
              rw [e0]
              refine (scanHolds_walk _ _ [] [] (fun _ => 0) w' (BytAt.nil _ _) (BytAt.nil _ _) (fun _ => by decide)).mono ?_
              rintro e w2 ⟨rfl, hb2⟩
              exact ⟨_, rfl, hC.step hb2, rfl, fun _ _ h => RY.below h hb2⟩
            · refine Inv.StepW.of_run rfl (fun _ _ _ => rfl) ⟨fun a w' hC hdep hfix => ?_⟩
              have e0 : a.eval (.tmp 156) = .bool true := hdep 33 _ 156 rfl rfl (by kernel_rfl)
              have e1 : a.eval (.tmp 158) = .bool true := hdep 35 _ 158 rfl rfl (by kernel_rfl)
              refine ⟨.bool true, w', ?_, hC, rfl, fun _ _ h => h⟩
              simp only [execOp, List.map_toArray, List.map_cons, List.map_nil, e0, e1]
              kernel_rfl
            · refine Inv.StepW.of_run rfl (fun _ _ _ => rfl) ⟨fun a w' hC hdep hfix => ?_⟩
              refine ⟨a.eval (.tmp 159), w', rfl, hC, (hdep 36 _ 159 rfl rfl (by kernel_rfl) : RY (.val (.bool true)) (a.eval (.tmp 159)) w'), fun _ _ h => h⟩
            · refine Inv.StepW.of_call (f := 6) rfl (fun a w' hdep => wanted_of (j := 37) (b := true) (d := 160) rfl rfl rfl (hdep 37 _ 160 rfl rfl (by kernel_rfl))) (fun a w' hC hdep hfix => ?_)
              refine ⟨#[], w', (by simp only [execOp, resolve, List.map_toArray, List.map_cons, List.map_nil]; kernel_rfl), (works_any w').mono ?_⟩
              rintro e w2 ⟨rfl, hb2⟩
              exact ⟨_, rfl, hC.step hb2, rfl, fun _ _ h => RY.below h hb2⟩
            · refine Inv.StepW.of_run rfl (fun _ _ _ => rfl) ⟨fun a w' hC hdep hfix => ?_⟩
              have e0 : a.eval (.tmp 160) = .bool true := hdep 37 _ 160 rfl rfl (by kernel_rfl)
              have e1 : a.eval (.tmp 161) = .bool true := hdep 38 _ 161 rfl rfl (by kernel_rfl)
              refine ⟨.bool true, w', ?_, hC, rfl, fun _ _ h => h⟩
              simp only [execOp, List.map_toArray, List.map_cons, List.map_nil, e0, e1]
              kernel_rfl
            · refine Inv.StepW.of_run rfl (fun _ _ _ => rfl) ⟨fun a w' hC hdep hfix => ?_⟩
              refine ⟨a.eval (.tmp 162), w', rfl, hC, (hdep 39 _ 162 rfl rfl (by kernel_rfl) : RY (.val (.bool true)) (a.eval (.tmp 162)) w'), fun _ _ h => h⟩
          have hv0 : f 0 = .bool true := hR 40 _ 0 rfl rfl
          simp only [Inv.dsts, List.filterMap_cons, List.filterMap_nil, List.foldl_cons, List.foldl_nil, Act.put, List.setIfInBounds_toArray, List.set_cons_succ, List.set_cons_zero]
          rw [hv0]
          have HBZ := Lib.hid (below_step HBW.out hC.1 HBW.out.size)
          clear hC hR hv0 HLD7 HLD8 HLD9 HNV7 HNV8 HNV9
          go_wp2
          go_ret
          exact ⟨rfl, HBZ.out⟩
end Go.Proofs.Ytadlimfpcfdgcaa
