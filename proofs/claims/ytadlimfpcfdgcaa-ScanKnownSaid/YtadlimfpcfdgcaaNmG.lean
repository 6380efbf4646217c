/- Plain facts: letters' values as a number, and its bytes. -/
import Derived.Test.YtadlimfpcfdgcaaNmC
import Derived.Laws.Tables
import Derived.Laws.Rows
import Derived.Deep.Cut
import Derived.RegionTactic
import Derived.ChangeAlike
import Derived.Test.YtadlimfpcfdgcaaNmA
set_option linter.unusedVariables false
set_option linter.unusedSimpArgs false
namespace Go.Proofs.Ytadlimfpcfdgcaa.Nam
open Go.RowKit

/-- The number of the first k letters. -/
def numL (v : Nat → Nat) : Nat → Nat
  | 0 => 0
  | k + 1 => numL v k * 32 + v k
theorem numL_div (v : Nat → Nat) (hv : ∀ i, v i < 32) (k m : Nat) : numL v (k + m) / 32 ^ m = numL v k := by
  induction m with
  | zero => simp
  | succ m ih =>
    rw [Nat.pow_succ, Nat.mul_comm, ← Nat.div_div_eq_div_mul]
    have : numL v (k + (m + 1)) / 32 = numL v (k + m) := by
      show (numL v (k + m) * 32 + v (k + m)) / 32 = _
      have := hv (k + m)
      omega
    rw [this, ih]
theorem numL_pre (v : Nat → Nat) (hv : ∀ i, v i < 32) (k : Nat) (hk : k ≤ 32) : numL v k = numL v 32 / 2 ^ (5 * (32 - k)) := by
  have := numL_div v hv k (32 - k)
  rw [show k + (32 - k) = 32 from by omega] at this
  rw [← this, Nat.pow_mul]
theorem numL_letNo (v : Nat → Nat) (hv : ∀ i, v i < 32) (i : Nat) (hi : i < 32) : letNo (numL v 32) i = v i := by
  have h : numL v (i + 1) % 32 = v i := by
    show (numL v i * 32 + v i) % 32 = v i
    have := hv i
    omega
  rw [numL_pre v hv (i + 1) (by omega)] at h
  rw [letNo, show 155 - 5 * i = 5 * (32 - (i + 1)) from by omega, h]
theorem numL_congr (v u : Nat → Nat) (k : Nat) (h : ∀ i, i < k → v i = u i) : numL v k = numL u k := by
  induction k with
  | zero => rfl
  | succ k ih => simp only [numL]; rw [ih fun i hi => h i (by omega), h k (by omega)]

/-- The i-th byte of a number of 20. -/
def byteNo (M i : Nat) : Nat := M / 2 ^ (152 - 8 * i) % 256
theorem byteNo_lt (M i : Nat) : byteNo M i < 256 := Nat.mod_lt _ (by decide)
theorem mod64_div256 (a n : Nat) (hn : n ≤ 56) : a % 18446744073709551616 / 2 ^ n % 256 = a / 2 ^ n % 256 := by
  rw [show (18446744073709551616 : Nat) = 2 ^ n * 2 ^ (64 - n) from by rw [← Nat.pow_add, show n + (64 - n) = 64 from by omega], Nat.mod_mul_right_div_self]
  exact Nat.mod_mod_of_dvd _ ⟨2 ^ (56 - n), by rw [show (256 : Nat) = 2 ^ 8 from rfl, ← Nat.pow_add]; congr 1; omega⟩
theorem byte_of (v : Nat → Nat) (hv : ∀ i, v i < 32) (k a n : Nat) (hk : k ≤ 32) (h : n + 8 * (a + 1) = 5 * k) (hn : n ≤ 56) : numL v k % 18446744073709551616 / 2 ^ n % 256 = byteNo (numL v 32) a := by
  rw [mod64_div256 _ _ hn, numL_pre v hv k hk, Nat.div_div_eq_div_mul, ← Nat.pow_add, byteNo, show 5 * (32 - k) + n = 152 - 8 * a from by omega]
theorem num_byteNo (d : Nat → Nat) (hd : ∀ i, d i < 256) (i : Nat) (hi : i < 20) : byteNo (num d 20) i = d i := by
  have h := num_mod d hd i
  rw [num_pre d hd (i + 1) (by omega)] at h
  rw [byteNo, show 152 - 8 * i = 8 * (20 - (i + 1)) from by omega, h]

/-- The i-th byte, when n bits are there. -/
def partNo (M n i : Nat) : Nat := M / 2 ^ (160 - n) * 2 ^ (160 - n) / 2 ^ (152 - 8 * i) % 256
theorem partNo_lt (M n i : Nat) : partNo M n i < 256 := Nat.mod_lt _ (by decide)
theorem partNo_done (M i : Nat) (_hi : i < 20) : partNo M 160 i = byteNo M i := by simp [partNo, byteNo]
theorem partNo_zero (M i : Nat) (hM : M < 2 ^ 160) : partNo M 0 i = 0 := by
  have : M / 2 ^ (160 - 0) = 0 := Nat.div_eq_of_lt hM
  rw [partNo, this]; simp
theorem half (M n : Nat) (hn : n < 160) : M / 2 ^ (160 - (n + 1)) = 2 * (M / 2 ^ (160 - n)) + bitNo M n := by
  have h := bits_step M (160 - (n + 1)) 0
  rw [bitNo, show 160 - n = (160 - (n + 1)) + 1 from by omega, Nat.pow_succ 2 (160 - (n + 1)), ← Nat.div_div_eq_div_mul, show 159 - n = 160 - (n + 1) from by omega]
  omega
theorem partNo_step (M n i : Nat) (hn : n < 160) (hi : i < 20) : partNo M (n + 1) i = if i = n / 8 then partNo M n i + bitNo M n * 2 ^ (7 - n % 8) else partNo M n i := by
  have hb : bitNo M n < 2 := Nat.mod_lt _ (by decide)
  have hh := half M n hn
  rw [partNo, partNo, hh]
  generalize M / 2 ^ (160 - n) = V
  generalize bitNo M n = b at hb
  have e1 : 2 ^ (160 - n) = 2 * 2 ^ (160 - (n + 1)) := by rw [show 160 - n = (160 - (n + 1)) + 1 from by omega, Nat.pow_succ, Nat.mul_comm]
  rcases Nat.lt_trichotomy i (n / 8) with h | h | h
  · rw [if_neg (by omega)]
    congr 1
    -- 2 ^ (152 - 8 i) is a multiple of 2 ^ (160 - n)
    have e2 : 2 ^ (152 - 8 * i) = 2 ^ (160 - (n + 1)) * (2 * 2 ^ (152 - 8 * i - (160 - n))) := by
      rw [← Nat.pow_succ', ← Nat.pow_add]; congr 1; omega
    rw [e2, e1]
    generalize hc : 2 ^ (160 - (n + 1)) = c
    have hc0 : 0 < c := hc ▸ Nat.two_pow_pos _
    generalize 2 ^ (152 - 8 * i - (160 - n)) = q
    have a1 : (2 * V + b) * c / (c * (2 * q)) = V / q := by
      rw [← Nat.div_div_eq_div_mul, Nat.mul_div_cancel _ hc0, ← Nat.div_div_eq_div_mul]
      congr 1
      omega
    have a2 : V * (2 * c) / (c * (2 * q)) = V / q := by
      rw [show V * (2 * c) = 2 * V * c from by ac_rfl, ← Nat.div_div_eq_div_mul, Nat.mul_div_cancel _ hc0, ← Nat.div_div_eq_div_mul]
      congr 1
      omega
    rw [a1, a2]
  · rw [if_pos h]
    have er : 160 - (n + 1) = (152 - 8 * i) + (7 - n % 8) := by omega
    have e3 : 2 ^ (160 - (n + 1)) = 2 ^ (152 - 8 * i) * 2 ^ (7 - n % 8) := by rw [← Nat.pow_add, er]
    rw [e1, e3]
    generalize hc : 2 ^ (152 - 8 * i) = c
    have hc0 : 0 < c := hc ▸ Nat.two_pow_pos _
    generalize hr : 7 - n % 8 = r
    have hr7 : r ≤ 7 := by omega
    have a1 : (2 * V + b) * (c * 2 ^ r) / c = (2 * V + b) * 2 ^ r := by
      rw [show (2 * V + b) * (c * 2 ^ r) = (2 * V + b) * 2 ^ r * c from by ac_rfl]
      exact Nat.mul_div_cancel _ hc0
    have a2 : V * (2 * (c * 2 ^ r)) / c = V * (2 * 2 ^ r) := by
      rw [show V * (2 * (c * 2 ^ r)) = V * (2 * 2 ^ r) * c from by ac_rfl]
      exact Nat.mul_div_cancel _ hc0
    rw [a1, a2]
    have hp : r = 0 ∨ r = 1 ∨ r = 2 ∨ r = 3 ∨ r = 4 ∨ r = 5 ∨ r = 6 ∨ r = 7 := by omega
    have hb' : b = 0 ∨ b = 1 := by omega
    rcases hp with rfl | rfl | rfl | rfl | rfl | rfl | rfl | rfl <;> rcases hb' with rfl | rfl <;> simp <;> omega
  · rw [if_neg (by omega)]
    -- both are multiples of 256
    have e4 : 2 ^ (160 - (n + 1)) = 2 ^ (152 - 8 * i) * (256 * 2 ^ (160 - (n + 1) - (160 - 8 * i))) := by
      rw [show (256 : Nat) = 2 ^ 8 from rfl, ← Nat.pow_add, ← Nat.pow_add]; congr 1; omega
    rw [e1, e4]
    generalize hc : 2 ^ (152 - 8 * i) = c
    have hc0 : 0 < c := hc ▸ Nat.two_pow_pos _
    generalize 2 ^ (160 - (n + 1) - (160 - 8 * i)) = q
    have a1 : (2 * V + b) * (c * (256 * q)) / c = 256 * ((2 * V + b) * q) := by
      rw [show (2 * V + b) * (c * (256 * q)) = 256 * ((2 * V + b) * q) * c from by ac_rfl]
      exact Nat.mul_div_cancel _ hc0
    have a2 : V * (2 * (c * (256 * q))) / c = 256 * (V * (2 * q)) := by
      rw [show V * (2 * (c * (256 * q))) = 256 * (V * (2 * q)) * c from by ac_rfl]
      exact Nat.mul_div_cancel _ hc0
    rw [a1, a2, Nat.mul_mod_right, Nat.mul_mod_right]
theorem partNo_or (M n : Nat) (hn : n < 160) : partNo M n (n / 8) % (2 * 2 ^ (7 - n % 8)) = 0 := by
  rw [partNo]
  generalize M / 2 ^ (160 - n) = V
  have er : 160 - n = (152 - 8 * (n / 8)) + ((7 - n % 8) + 1) := by omega
  rw [show 2 ^ (160 - n) = 2 ^ (152 - 8 * (n / 8)) * 2 ^ ((7 - n % 8) + 1) from by rw [← Nat.pow_add]; congr 1]
  generalize hc : 2 ^ (152 - 8 * (n / 8)) = c
  have hc0 : 0 < c := hc ▸ Nat.two_pow_pos _
  generalize hr : 7 - n % 8 = r
  have hr7 : r ≤ 7 := by omega
  rw [show V * (c * 2 ^ (r + 1)) = V * 2 ^ (r + 1) * c from by ac_rfl, Nat.mul_div_cancel _ hc0]
  have hp : r = 0 ∨ r = 1 ∨ r = 2 ∨ r = 3 ∨ r = 4 ∨ r = 5 ∨ r = 6 ∨ r = 7 := by omega
  rcases hp with rfl | rfl | rfl | rfl | rfl | rfl | rfl | rfl <;> simp <;> omega
theorem bit_letNo (M i k : Nat) (hi : i < 32) (hk : k < 5) : letNo M i / 2 ^ (4 - k) % 2 = bitNo M (5 * i + k) := by
  rw [letNo, bitNo, show 159 - (5 * i + k) = (155 - 5 * i) + (4 - k) from by omega, Nat.pow_add, ← Nat.div_div_eq_div_mul]
  generalize M / 2 ^ (155 - 5 * i) = y
  have hp : k = 0 ∨ k = 1 ∨ k = 2 ∨ k = 3 ∨ k = 4 := by omega
  rcases hp with rfl | rfl | rfl | rfl | rfl <;> simp <;> omega
theorem numL_lt (v : Nat → Nat) (hv : ∀ i, v i < 32) (k : Nat) : numL v k < 32 ^ k := by
  induction k with
  | zero => simp [numL]
  | succ k ih =>
    show numL v k * 32 + v k < 32 ^ (k + 1)
    have := hv k
    rw [Nat.pow_succ]
    omega
end Go.Proofs.Ytadlimfpcfdgcaa.Nam

/- Contract of naming's Bytes. -/
namespace Go.Proofs.Ytadlimfpcfdgcaa.Nam
open Go.RowKit

def letV (s : ByteArray) (i : Nat) : Nat := (valI (s.data.toList.getD i 0)).toNat
theorem letV_lt (s : ByteArray) (i : Nat) : letV s i < 32 := by have := valI_lt (s.data.toList.getD i 0); unfold letV; omega
def okL (s : ByteArray) : Bool := decide (s.size = 32) && s.data.toList.all (fun c => decide (0 ≤ valI c))
def outD (s : ByteArray) : Nat → Nat := if okL s then byteNo (numL (letV s) 32) else fun _ => 0
theorem getD_of (s : ByteArray) (k : Nat) (h : k < s.size) : s.data.toList.getD k 0 = s[k] := by
  simp [List.getD, h]
  rfl
theorem okL_no (s : ByteArray) (k : Nat) (hk : k < s.size) (h : valI s[k] < 0) : okL s = false := by
  have : s.data.toList.all (fun c => decide (0 ≤ valI c)) = false := by
    rw [List.all_eq_false]
    exact ⟨s[k], List.getElem_mem (l := s.data.toList) (by simpa using hk), by simp; omega⟩
  simp [okL, this]
theorem okL_len (s : ByteArray) (h : s.size ≠ 32) : okL s = false := by simp [okL, h]
theorem okL_yes (s : ByteArray) (h : s.size = 32) (ha : ∀ j (hj : j < s.size), 0 ≤ valI s[j]) : okL s = true := by
  have : s.data.toList.all (fun c => decide (0 ≤ valI c)) = true := by
    rw [List.all_eq_true]
    intro c hc
    obtain ⟨j, hj, rfl⟩ := List.getElem_of_mem hc
    exact decide_eq_true (ha j (by simpa using hj))
  simp [okL, h, this]
theorem outD_no (s : ByteArray) (h : okL s = false) : outD s = fun _ => 0 := by simp [outD, h]
theorem outD_yes (s : ByteArray) (h : okL s = true) : outD s = byteNo (numL (letV s) 32) := by simp [outD, h]

theorem info20 : (Try.prog.info? 53).map (·.size) = some 20 := by kernel_rfl
theorem digA_ok (d : Nat → Nat) (n : Nat) : (digA d n).all (·.oneCell') = true := by
  rw [Array.all_eq_true_iff_forall_mem]
  intro v hv
  simp [digA, cells] at hv
  obtain ⟨i, _, rfl⟩ := hv
  rfl
def upTo (f : Nat → Nat) (a i : Nat) : Nat := if i < a then f i else 0
theorem digA_set (f : Nat → Nat) (a : Nat) (_ha : a < 20) : (digA (upTo f a) 20).setIfInBounds a (.int .u8 (f a : Int)) = digA (upTo f (a + 1)) 20 := by
  apply Array.ext
  · simp [digA_size]
  · intro i h1 h2
    have hi : i < 20 := by simpa [digA_size] using h2
    have e : ∀ a, (digA (upTo f a) 20)[i]? = some (.int .u8 (upTo f a i : Int)) := fun a => digA_get _ _ _ hi
    apply Option.some.inj
    rw [← Array.getElem?_eq_getElem, ← Array.getElem?_eq_getElem, Array.getElem?_setIfInBounds, e, e]
    by_cases h : a = i
    · subst h; simp [digA_size, hi, upTo]
    · rw [if_neg h]
      congr 3
      unfold upTo
      split <;> split <;> first | rfl | omega
theorem upTo_zero (f : Nat → Nat) : upTo f 0 = fun _ => 0 := by funext i; simp [upTo]
theorem upTo_all (f : Nat → Nat) : digA (upTo f 20) 20 = digA f 20 := by
  unfold digA cells
  refine congrArg List.toArray (List.map_congr_left fun i hi => ?_)
  simp at hi
  simp [upTo, hi]
theorem zeros_eq : #[Value.int IntKind.u8 0, Value.int IntKind.u8 0, Value.int IntKind.u8 0, Value.int IntKind.u8 0, Value.int IntKind.u8 0, Value.int IntKind.u8 0, Value.int IntKind.u8 0, Value.int IntKind.u8 0, Value.int IntKind.u8 0, Value.int IntKind.u8 0, Value.int IntKind.u8 0, Value.int IntKind.u8 0, Value.int IntKind.u8 0, Value.int IntKind.u8 0, Value.int IntKind.u8 0, Value.int IntKind.u8 0, Value.int IntKind.u8 0, Value.int IntKind.u8 0, Value.int IntKind.u8 0, Value.int IntKind.u8 0] = digA (fun _ => 0) 20 := by
  rfl
theorem rows2 (w : World) (A B : Obj) : ((w.alloc A).alloc B).heap[w.heap.size]? = some A ∧ ((w.alloc A).alloc B).heap[w.heap.size + 1]? = some B := by
  have h1 : (w.alloc A).heap.size = w.heap.size + 1 := World.size_alloc _ _
  exact ⟨heap_alloc2_old w A B, heap_alloc2_new w A B⟩
theorem below_setRow {B g : Nat} {W w1 : World} (h : Below B W w1) (hg : B ≤ g) (cs : Array Value) : Below B W (w1.setRow g cs) := by
  refine ⟨h.os, h.tape, h.output, by simp; exact h.size, fun k hk => ?_⟩
  rw [setRow_other w1 g k cs (by omega)]
  exact h.block k hk

theorem rows_start (w : World) (Z : Obj) : ∃ w1, w1 = (w.alloc Z).alloc Z ∧ w1.heap[w.heap.size]? = some Z ∧ w1.heap[w.heap.size + 1]? = some Z ∧ Below w.heap.size w w1 ∧ w1.heap.size = w.heap.size + 2 :=
  ⟨_, rfl, (rows2 w Z Z).1, (rows2 w Z Z).2, ((Below.refl _ _).alloc (Nat.le_refl _) _).alloc (by simp) _, by simp⟩

theorem results_cell_tmp {P : Program} {fn : Func} {p q : Tmp} {ty : TypeId} (h : fn.results = #[.cell p ty, .tmp q]) (tmps : Array Value) (w : World) (g : Nat) (t : TypeId) (cs : Array Value) (fr : Nat × Nat) (d : TypeDesc) (v : Value)
    (hp : tmps.getD p undef = .pointer (some ⟨g, 0, none⟩)) (hq : tmps.getD q undef = v) (hg : w.heap[g]? = some (.cells cs t fr))
    (hu : P.underlying ty = some d) (hd : (match d with | .struct _ | .array _ _ => true | _ => false) = true) (hi : (P.info? ty).map (·.size) = some cs.size) :
    (results fn tmps).run P w = .ok (.tuple #[.agg cs, v]) w := by
  have hp' : tmps[p]?.getD undef = .pointer (some ⟨g, 0, none⟩) := by simpa using hp
  have hq' : tmps[q]?.getD undef = v := by simpa using hq
  simp [results, h, hp', hq', asAddr, run_loadVar_row w g t ty cs fr d hg hu hd hi]

theorem index_no (c : UInt8) (w : World) (h : valI c < 0) :
    Calls Try.prog 51 #[.string ⟨#[48, 49, 50, 51, 52, 53, 54, 55, 56, 57, 97, 98, 99, 100, 102, 103, 104, 105, 106, 107, 108, 109, 110, 112, 113, 114, 115, 118, 119, 120, 121, 122]⟩, .int .u8 (c.toNat : Int)] w fun e w' => e = .returned (.int .i64 (-1)) ∧ w = w' := by
  refine (Try.strings_IndexByte _ _ w).mono ?_
  rintro e w' ⟨rfl, rfl⟩
  refine ⟨ret_int ?_, rfl⟩
  have := valI_lt c
  have e : ((c.toNat : Int).toNat).toUInt8 = c := by simp
  rw [e]
  show valI c = -1
  omega
theorem index_yes (c : UInt8) (x : Nat) (w : World) (h : valI c = (x : Int)) :
    Calls Try.prog 51 #[.string ⟨#[48, 49, 50, 51, 52, 53, 54, 55, 56, 57, 97, 98, 99, 100, 102, 103, 104, 105, 106, 107, 108, 109, 110, 112, 113, 114, 115, 118, 119, 120, 121, 122]⟩, .int .u8 (c.toNat : Int)] w fun e w' => e = .returned (.int .i64 (x : Int)) ∧ w = w' := by
  refine (Try.strings_IndexByte _ _ w).mono ?_
  rintro e w' ⟨rfl, rfl⟩
  refine ⟨ret_int ?_, rfl⟩
  have e : ((c.toNat : Int).toNat).toUInt8 = c := by simp
  rw [e]
  exact h
theorem or_let (a c : Nat) (hc : c < 32) : bits BinOp.or IntKind.u64 (IntKind.u64.wrap ((mod64 a : Int) * 32)) (c : Int) = (mod64 (a * 32 + c) : Int) := by
  have e1 : ((mod64 a : Int) * 32) = ((mod64 a * 32 : Nat) : Int) := by omega
  have h2 : mod64 (mod64 a * 32) % 2 ^ 5 = 0 := by unfold mod64; omega
  rw [e1, wrap_u64_nat, u64_or_nat _ _ (mod64_lt _) (by omega), nat_join 5 _ _ h2 (by omega)]
  unfold mod64
  omega
theorem letV_of (s : ByteArray) (k : Nat) (hk : k < s.size) (h : 0 ≤ valI s[k]) : valI s[k] = (letV s k : Int) := by
  unfold letV
  rw [getD_of s k hk]
  omega

set_option maxRecDepth 100000 in
set_option maxHeartbeats 400000 in
theorem bytes_any (s : ByteArray) (w : World) (hs : s.size ≤ maxLen) :
    Calls Try.prog 43 #[.string s] w fun e w' => e = .returned (.tuple #[.agg (digA (outD s) 20), .bool (okL s)]) ∧ Below w.heap.size w w' := by
  unfold maxLen at hs
  go_enter Try.func43, Try.ntmps43
  go_upto_region 2 with (fail)
  rw [zeros_eq]
  obtain ⟨w1, hw1, hgR, hgB, hb, hsz⟩ := rows_start w (.cells (digA (fun _ => 0) 20) 53)
  rw [← hw1]
  clear hw1
  by_cases h32 : s.size = 32
  · have H32 := Lib.hid h32
    have hs32 : s.size ≤ 32 := by omega
    have hs32' : 32 ≤ s.size := by omega
    have hbn : ((s.size : Int) != 32) = false := by rw [h32]; rfl
    clear h32
    have HSZ := Lib.hid hsz
    clear hsz
    go_wp2
    go_loopw [5, 6, 7, 16] (fun b n a i wr => ∃ k j m : Nat, k ≤ 32 ∧ m < 8 ∧ Hid (m + 8 * j = 5 * k) ∧ i = .int .i64 k ∧ n = .int .i64 m ∧ a = .int .i64 j ∧ b = .int .u64 (mod64 (numL (letV s) k) : Int) ∧ Hid (∀ x, ∀ h : x < s.size, x < k → 0 ≤ valI s[x]) ∧
        wr.heap[w.heap.size]? = some (.cells (digA (fun _ => 0) 20) 53) ∧ wr.heap[w.heap.size + 1]? = some (.cells (digA (upTo (byteNo (numL (letV s) 32)) j) 20) 53) ∧ Below w.heap.size w wr) (fun _ _ _ i _ => 32 - (intOf i).toNat)
    case atStart => exact ⟨0, 0, 0, by omega, by omega, Lib.hid (by omega), rfl, rfl, rfl, rfl, Lib.hid (fun x _ h => absurd h (Nat.not_lt_zero x)), hgR, by rw [upTo_zero]; exact hgB, hb⟩
    case round =>
      clear hgR hgB hb
      obtain ⟨k, j, m, hk, hm, HM, rfl, rfl, rfl, rfl, HA, hgR, hgB, hb⟩ := hrel
      by_cases hlt : k < 32
      · have hks : k < s.size := by omega
        by_cases hv : valI s[k] < 0
        · have HV := Lib.hid hv
          have HO := Lib.hid (okL_no s k hks hv)
          clear hv
          go_wp2_with (first | (go_at_call 51; refine (index_no _ _ HV.out).mono ?_; rintro e w' ⟨rfl, rfl⟩) | (refine wpList_store_row rfl 53 _ _ rfl w.heap.size (digA (fun _ => 0) 20) rfl rfl 53 _ hgR info20 rfl (digA_ok _ _) ?_))
          refine bodyPost_ret (v := .tuple #[.agg (digA (fun _ => 0) 20), .bool false]) (results_cell_tmp Try.results43 _ _ w.heap.size 53 _ (0, 0) _ _ rfl rfl (setRow_heap _ _ _ _ _ _ hgR) Try.underlying53 rfl info20) rfl ?_
          refine ⟨by rw [HO.out, outD_no s HO.out], below_setRow hb (Nat.le_refl _) _⟩
        · have HV := Lib.hid (letV_of s k hks (by omega))
          have hx := letV_lt s k
          clear hv
          have eo := or_let (numL (letV s) k) (letV s k) hx
          rw [show numL (letV s) k * 32 + letV s k = numL (letV s) (k + 1) from rfl] at eo
          have HA' : Hid (∀ x, ∀ h : x < s.size, x < k + 1 → 0 ≤ valI s[x]) := Lib.hid fun x h hx' => by
            rcases Nat.lt_or_ge x k with h1 | h1
            · exact HA.out x h h1
            · obtain rfl : x = k := by omega
              rw [HV.out]; omega
          by_cases h8 : 8 ≤ m + 5
          · obtain ⟨q, rfl⟩ : ∃ q, m = q + 3 := ⟨m - 3, by omega⟩
            have hj : j < 20 := by have := HM.out; omega
            have hcell : wr.cell? ⟨w.heap.size + 1, j, none⟩ = some (.int .u8 0) := by
              rw [cell_of_row _ _ _ _ _ _ hgB, digA_get _ _ _ hj]; simp [upTo]
            have hfr : wr.frozen? ⟨w.heap.size + 1, j, none⟩ = false := frozen_of_row _ _ _ _ _ hgB
            have hgR' := (heap_setCell_other wr ⟨w.heap.size + 1, j, none⟩ w.heap.size (.int .u8 (byteNo (numL (letV s) 32) j : Int)) (by simp)).trans hgR
            have hgB' := heap_setCell_same wr (w.heap.size + 1) j _ _ (.int .u8 (byteNo (numL (letV s) 32) j : Int)) hgB
            rw [digA_set _ _ hj] at hgB'
            have hb' := hb.setCell (p := ⟨w.heap.size + 1, j, none⟩) (by simp) (.int .u8 (byteNo (numL (letV s) 32) j : Int))
            have ew : IntKind.u8.wrap ((mod64 (numL (letV s) (k + 1)) : Int) / 2 ^ q) = (byteNo (numL (letV s) 32) j : Int) := by
              rw [cast_div, IntKind.wrap_u8, ← byte_of (letV s) (letV_lt s) (k + 1) j q (by omega) (by have := HM.out; omega) (by omega)]
              exact (Int.natCast_emod _ _).symm
            go_wp2_with (first | (go_at_call 51; refine (index_yes _ _ _ HV.out).mono ?_; rintro e w' ⟨rfl, rfl⟩))
            go_roundw
            case rel => exact ⟨k + 1, j + 1, q, by omega, by omega, Lib.hid (by have := HM.out; omega), by go_num, by go_num, by go_num, rfl, HA', hgR', hgB', hb'⟩
            case measure => simp [intOf]; omega
          · go_wp2_with (first | (go_at_call 51; refine (index_yes _ _ _ HV.out).mono ?_; rintro e w' ⟨rfl, rfl⟩))
            go_roundw
            case rel => exact ⟨k + 1, j, m + 5, by omega, by omega, Lib.hid (by have := HM.out; omega), by go_num, by go_num, rfl, rfl, HA', hgR, hgB, hb⟩
            case measure => simp [intOf]; omega
      · have HK := Lib.hid (show k = 32 by omega)
        have HJ := Lib.hid (show j = 20 by have := HM.out; omega)
        have HO := Lib.hid (okL_yes s H32.out fun x h => HA.out x h (by omega))
        go_wp2_with (first | (refine wpList_load_row rfl 53 _ rfl (w.heap.size + 1) rfl 53 _ (0, 0) _ hgB Try.underlying53 rfl (by rw [digA_size]; exact info20) ?_) | (refine wpList_store_row rfl 53 _ _ rfl w.heap.size _ rfl rfl 53 _ hgR (by rw [digA_size]; exact info20) (by rw [digA_size, digA_size]) (digA_ok _ _) ?_))
        refine bodyPost_ret (v := .tuple #[.agg (digA (upTo (byteNo (numL (letV s) 32)) j) 20), .bool true]) (results_cell_tmp Try.results43 _ _ w.heap.size 53 _ (0, 0) _ _ rfl rfl (setRow_heap _ _ _ _ _ _ hgR) Try.underlying53 rfl (by rw [digA_size]; exact info20)) rfl ?_
        refine ⟨by rw [HO.out, outD_yes s HO.out, HJ.out, upTo_all], below_setRow hb (Nat.le_refl _) _⟩
  · have hbn : ((s.size : Int) != 32) = true := by rw [bne_iff_ne]; omega
    have HO := Lib.hid (okL_len s h32)
    clear h32
    go_wp2_with (first | (refine wpList_load_row rfl 53 _ rfl (w.heap.size + 1) rfl 53 _ (0, 0) _ hgB Try.underlying53 rfl info20 ?_) | (refine wpList_store_row rfl 53 _ _ rfl w.heap.size (digA (fun _ => 0) 20) rfl rfl 53 _ hgR info20 rfl (digA_ok _ _) ?_))
    refine bodyPost_ret (v := .tuple #[.agg (digA (fun _ => 0) 20), .bool false]) (results_cell_tmp Try.results43 _ _ w.heap.size 53 _ (0, 0) _ _ rfl rfl (setRow_heap _ _ _ _ _ _ hgR) Try.underlying53 rfl info20) rfl ?_
    refine ⟨by rw [HO.out, outD_no s HO.out], below_setRow hb (Nat.le_refl _) _⟩
end Go.Proofs.Ytadlimfpcfdgcaa.Nam

/- Contract of the reference's Bytes. -/
namespace Go.Proofs.Ytadlimfpcfdgcaa.Nam
open Go.RowKit

def numS (s : ByteArray) : Nat := numL (letV s) 32
theorem numS_lt (s : ByteArray) : numS s < 2 ^ 160 := Nat.lt_of_lt_of_le (numL_lt (letV s) (letV_lt s) 32) (by rw [show (32 : Nat) ^ 32 = 2 ^ 160 from by decide +kernel]; exact Nat.le_refl _)
theorem partA_zero (s : ByteArray) : digA (partNo (numS s) 0) 20 = digA (fun _ => 0) 20 := by
  unfold digA cells
  refine congrArg List.toArray (List.map_congr_left fun i _ => ?_)
  rw [partNo_zero _ _ (numS_lt s)]
theorem partA_done (s : ByteArray) : digA (partNo (numS s) 160) 20 = digA (byteNo (numS s)) 20 := by
  unfold digA cells
  refine congrArg List.toArray (List.map_congr_left fun i hi => ?_)
  simp at hi
  rw [partNo_done _ _ hi]
theorem partA_stay (M n : Nat) (hn : n < 160) (hb : bitNo M n = 0) : digA (partNo M (n + 1)) 20 = digA (partNo M n) 20 := by
  unfold digA cells
  refine congrArg List.toArray (List.map_congr_left fun i hi => ?_)
  simp at hi
  rw [partNo_step _ _ _ hn hi, hb]
  split <;> simp
theorem partA_set (M n : Nat) (hn : n < 160) (hb : bitNo M n = 1) : (digA (partNo M n) 20).setIfInBounds (n / 8) (.int .u8 ((partNo M n (n / 8) + 2 ^ (7 - n % 8) : Nat) : Int)) = digA (partNo M (n + 1)) 20 := by
  apply Array.ext
  · simp [digA_size]
  · intro i h1 h2
    have hi : i < 20 := by simpa [digA_size] using h2
    apply Option.some.inj
    rw [← Array.getElem?_eq_getElem, ← Array.getElem?_eq_getElem, Array.getElem?_setIfInBounds, digA_get _ _ _ hi, digA_get _ _ _ hi, partNo_step _ _ _ hn hi, hb]
    by_cases h : n / 8 = i
    · subst h; simp [digA_size, hi]
    · rw [if_neg h, if_neg (fun e => h e.symm)]
theorem or_bit (M n : Nat) (hn : n < 160) : bits BinOp.or IntKind.u8 (partNo M n (n / 8) : Int) (2 ^ (7 - n % 8) % 256) = ((partNo M n (n / 8) + 2 ^ (7 - n % 8) : Nat) : Int) := by
  have hp := partNo_lt M n (n / 8)
  have h2 := partNo_or M n hn
  generalize hr : 7 - n % 8 = r at *
  have hr7 : r ≤ 7 := by omega
  have hlt : 2 ^ r < 256 := by
    have : 2 ^ r ≤ 2 ^ 7 := Nat.pow_le_pow_right (by decide) hr7
    omega
  rw [show ((2 : Int) ^ r) % 256 = ((2 ^ r : Nat) : Int) from by rw [show ((2 : Int) ^ r) = ((2 ^ r : Nat) : Int) from by push_cast; rfl]; exact Int.emod_eq_of_lt (Int.natCast_nonneg _) (Int.ofNat_lt.2 hlt), u8_or_nat _ _ hp hlt, nat_join (r + 1) _ _ (by rw [Nat.pow_succ, Nat.mul_comm]; exact h2) (by rw [Nat.pow_succ]; have := Nat.two_pow_pos r; omega)]

theorem and_test (v j b : Nat) (hv : v < 32) (h : v / 2 ^ (4 - j) % 2 = b) : bits BinOp.and IntKind.i64 ((v : Int) / 2 ^ (4 - j)) 1 = (b : Int) := by
  have hle := Nat.div_le_self v (2 ^ (4 - j))
  rw [cast_div, and_one _ (by omega), h]

set_option maxRecDepth 100000 in
set_option maxHeartbeats 800000 in
theorem refBytes_any (s : ByteArray) (w : World) (hs : s.size ≤ maxLen) :
    Calls Try.prog 19 #[.string s] w fun e w' => e = .returned (.tuple #[.agg (digA (outD s) 20), .bool (okL s)]) ∧ Below w.heap.size w w' := by
  unfold maxLen at hs
  go_enter Try.func19, Try.ntmps19
  go_upto_region 2 with (fail)
  rw [zeros_eq]
  obtain ⟨w1, hw1, hgR, hgB, hb, hsz⟩ := rows_start w (.cells (digA (fun _ => 0) 20) 53)
  rw [← hw1]
  clear hw1
  by_cases h32 : s.size = 32
  · have H32 := Lib.hid h32
    have hs32 : s.size ≤ 32 := by omega
    have hs32' : 32 ≤ s.size := by omega
    have hbn : ((s.size : Int) != 32) = false := by rw [h32]; rfl
    clear h32 hsz
    go_wp2
    go_loopw [5] (fun i wr => ∃ k : Nat, k ≤ 32 ∧ i = .int .i64 k ∧ Hid (∀ x, ∀ h : x < s.size, x < k → 0 ≤ valI s[x]) ∧
        wr.heap[w.heap.size]? = some (.cells (digA (fun _ => 0) 20) 53) ∧ wr.heap[w.heap.size + 1]? = some (.cells (digA (partNo (numS s) (5 * k)) 20) 53) ∧ Below w.heap.size w wr) (fun i _ => 32 - (intOf i).toNat)
    case atStart => exact ⟨0, by omega, rfl, Lib.hid (fun x _ h => absurd h (Nat.not_lt_zero x)), hgR, by rw [partA_zero]; exact hgB, hb⟩
    case round =>
      clear hgR hgB hb
      obtain ⟨k, hk, rfl, HA, hgR, hgB, hb⟩ := hrel
      by_cases hlt : k < 32
      · have hks : k < s.size := by omega
        have hdk : decide ((k : Int) < 32) = true := by simp; omega
        by_cases hv : valI s[k] < 0
        · have HO := Lib.hid (okL_no s k hks hv)
          go_wp2_with (first | (go_at_call 33; refine (value_any _ _).mono ?_; rintro e w' ⟨rfl, rfl⟩) | (refine wpList_store_row rfl 53 _ _ rfl w.heap.size (digA (fun _ => 0) 20) rfl rfl 53 _ hgR info20 rfl (digA_ok _ _) ?_))
          refine bodyPost_ret (v := .tuple #[.agg (digA (fun _ => 0) 20), .bool false]) (results_cell_tmp Try.results19 _ _ w.heap.size 53 _ (0, 0) _ _ rfl rfl (setRow_heap _ _ _ _ _ _ hgR) Try.underlying53 rfl info20) rfl ?_
          refine ⟨by rw [HO.out, outD_no s HO.out], below_setRow hb (Nat.le_refl _) _⟩
        · have HV := Lib.hid (letV_of s k hks (by omega))
          have hx := letV_lt s k
          have HL := Lib.hid (numL_letNo (letV s) (letV_lt s) k hlt)
          have HA' : Hid (∀ x, ∀ h : x < s.size, x < k + 1 → 0 ≤ valI s[x]) := Lib.hid fun x h hx' => by
            rcases Nat.lt_or_ge x k with h1 | h1
            · exact HA.out x h h1
            · obtain rfl : x = k := by omega
              omega
          clear hv
          go_wp2_with (first | (go_at_call 33; refine (value_any _ _).mono ?_; rw [HV.out]; rintro e w' ⟨rfl, rfl⟩))
          go_loopw [7] (fun i wr => ∃ j : Nat, j ≤ 5 ∧ i = .int .i64 j ∧
            wr.heap[w.heap.size]? = some (.cells (digA (fun _ => 0) 20) 53) ∧ wr.heap[w.heap.size + 1]? = some (.cells (digA (partNo (numS s) (5 * k + j)) 20) 53) ∧ Below w.heap.size w wr) (fun i _ => 5 - (intOf i).toNat)
          case atStart => exact ⟨0, by omega, rfl, hgR, hgB, hb⟩
          case round =>
            clear hgR hgB hb
            obtain ⟨j, hj, rfl, hgR, hgB, hb⟩ := hrel
            by_cases hjlt : j < 5
            · have hn : 5 * k + j < 160 := by omega
              have h8 : (5 * k + j) / 8 < 20 := by omega
              have hcell : wr.cell? ⟨w.heap.size + 1, (5 * k + j) / 8, none⟩ = some (.int .u8 (partNo (numS s) (5 * k + j) ((5 * k + j) / 8) : Int)) := by
                rw [cell_of_row _ _ _ _ _ _ hgB, digA_get _ _ _ h8]
              have hfr : wr.frozen? ⟨w.heap.size + 1, (5 * k + j) / 8, none⟩ = false := frozen_of_row _ _ _ _ _ hgB
              rcases (show bitNo (numS s) (5 * k + j) = 0 ∨ bitNo (numS s) (5 * k + j) = 1 by have : bitNo (numS s) (5 * k + j) < 2 := Nat.mod_lt _ (by decide); omega) with h0 | h1
              · have eb := and_test (letV s k) j 0 hx (by rw [← HL.out, bit_letNo _ _ _ hlt hjlt]; exact h0)
                have HS := Lib.hid (partA_stay (numS s) (5 * k + j) hn h0)
                clear h0
                go_wp2
                go_roundw
                case rel => exact ⟨j + 1, by omega, by go_num, hgR, by rw [show 5 * k + (j + 1) = 5 * k + j + 1 from rfl, HS.out]; exact hgB, hb⟩
                case measure => simp [intOf]; omega
              · have eb := and_test (letV s k) j 1 hx (by rw [← HL.out, bit_letNo _ _ _ hlt hjlt]; exact h1)
                have HS := Lib.hid (partA_set (numS s) (5 * k + j) hn h1)
                have eo := or_bit (numS s) (5 * k + j) hn
                clear h1
                go_upto_region 15 with (fail)
                go_region
                have hgR' := (heap_setCell_other wr ⟨w.heap.size + 1, (5 * k + j) / 8, none⟩ w.heap.size (.int .u8 ((partNo (numS s) (5 * k + j) ((5 * k + j) / 8) + 2 ^ (7 - (5 * k + j) % 8) : Nat) : Int)) (by simp)).trans hgR
                have hgB' := heap_setCell_same wr (w.heap.size + 1) ((5 * k + j) / 8) _ _ (.int .u8 ((partNo (numS s) (5 * k + j) ((5 * k + j) / 8) + 2 ^ (7 - (5 * k + j) % 8) : Nat) : Int)) hgB
                rw [HS.out] at hgB'
                have hb' := (hb.setCell (p := ⟨w.heap.size + 1, (5 * k + j) / 8, none⟩) (by simp) (.int .u8 ((partNo (numS s) (5 * k + j) ((5 * k + j) / 8) + 2 ^ (7 - (5 * k + j) % 8) : Nat) : Int))).drew
                clear hgR hgB hb hcell hfr
                go_wp2
                go_roundw
                case rel => exact ⟨j + 1, by omega, by go_num, hgR', hgB', hb'⟩
                case measure => simp [intOf]; omega
            · have HJ := Lib.hid (show j = 5 by omega)
              go_wp2
              go_roundw
              case rel => exact ⟨k + 1, by omega, by go_num, HA', hgR, by rw [show 5 * (k + 1) = 5 * k + j by have := HJ.out; omega]; exact hgB, hb⟩
              case measure => simp [intOf]; omega
      · have HK := Lib.hid (show k = 32 by omega)
        have HO := Lib.hid (okL_yes s H32.out fun x h => HA.out x h (by omega))
        go_wp2_with (first | (refine wpList_load_row rfl 53 _ rfl (w.heap.size + 1) rfl 53 _ (0, 0) _ hgB Try.underlying53 rfl (by rw [digA_size]; exact info20) ?_) | (refine wpList_store_row rfl 53 _ _ rfl w.heap.size _ rfl rfl 53 _ hgR (by rw [digA_size]; exact info20) (by rw [digA_size, digA_size]) (digA_ok _ _) ?_))
        refine bodyPost_ret (v := .tuple #[.agg (digA (partNo (numS s) (5 * k)) 20), .bool true]) (results_cell_tmp Try.results19 _ _ w.heap.size 53 _ (0, 0) _ _ rfl rfl (setRow_heap _ _ _ _ _ _ hgR) Try.underlying53 rfl (by rw [digA_size]; exact info20)) rfl ?_
        refine ⟨by rw [HO.out, outD_yes s HO.out, HK.out, show 5 * 32 = 160 from rfl, partA_done]; rfl, below_setRow hb (Nat.le_refl _) _⟩
  · have hbn : ((s.size : Int) != 32) = true := by rw [bne_iff_ne]; omega
    have HO := Lib.hid (okL_len s h32)
    clear h32
    go_wp2_with (first | (refine wpList_load_row rfl 53 _ rfl (w.heap.size + 1) rfl 53 _ (0, 0) _ hgB Try.underlying53 rfl info20 ?_) | (refine wpList_store_row rfl 53 _ _ rfl w.heap.size (digA (fun _ => 0) 20) rfl rfl 53 _ hgR info20 rfl (digA_ok _ _) ?_))
    refine bodyPost_ret (v := .tuple #[.agg (digA (fun _ => 0) 20), .bool false]) (results_cell_tmp Try.results19 _ _ w.heap.size 53 _ (0, 0) _ _ rfl rfl (setRow_heap _ _ _ _ _ _ hgR) Try.underlying53 rfl info20) rfl ?_
    refine ⟨by rw [HO.out, outD_no s HO.out], below_setRow hb (Nat.le_refl _) _⟩
end Go.Proofs.Ytadlimfpcfdgcaa.Nam

/- Contracts of Name, of naming and of its reference. -/
namespace Go.Proofs.Ytadlimfpcfdgcaa.Nam
open Go.RowKit

theorem info32 : (Try.prog.info? 29).map (·.size) = some 32 := by kernel_rfl
theorem right_len {s : ByteArray} (h : rightB s = true) : s.size ≤ 64 ∧ 1 ≤ s.size := by
  simp [rightB] at h
  omega
def letS (d : Nat → Nat) : ByteArray := strOf (letters (num d 20) 32)
theorem letS_size (d : Nat → Nat) : (letS d).size = 32 := by unfold letS; rw [strOf_size, letters_len]
def nameS (d : Nat → Nat) (s : ByteArray) : ByteArray := letS d ++ ⟨#[45]⟩ ++ s

theorem row_new (w : World) (o : Obj) : ∃ w1, w1 = w.alloc o ∧ w1.heap[w.heap.size]? = some o ∧ Below w.heap.size w w1 ∧ w1.heap.size = w.heap.size + 1 :=
  ⟨_, rfl, heap_alloc_new w o, (Below.refl _ _).alloc (Nat.le_refl _) _, by simp⟩

theorem right_is (b : Bool) (s : ByteArray) (w : World) (hs : s.size ≤ maxLen) (h : rightB s = b) :
    Calls Try.prog 21 #[.string s] w fun e w' => e = .returned (.bool b) ∧ w = w' := h ▸ right_any s w hs
theorem refRight_is (b : Bool) (s : ByteArray) (w : World) (hs : s.size ≤ maxLen) (h : rightB s = b) :
    Calls Try.prog 52 #[.string s] w fun e w' => e = .returned (.bool b) ∧ w = w' := h ▸ refRight_any s w hs
theorem letters_is (d : Nat → Nat) (hd : ∀ i, d i < 256) (w : World) :
    Calls Try.prog 10 #[.agg (digA d 32)] w fun e w' => e = .returned (.string (letS d)) ∧ Below w.heap.size w w' := letters_any d hd w
set_option maxRecDepth 100000 in
set_option maxHeartbeats 400000 in
theorem name_yes (d : Nat → Nat) (hd : ∀ i, d i < 256) (s : ByteArray) (w : World) (hs : s.size ≤ maxLen) (h : rightB s = true) :
    Calls Try.prog 11 #[.agg (digA d 32), .string s] w fun e w' => e = .returned (.tuple #[.string (nameS d s), .int .i64 0]) ∧ Below w.heap.size w w' := by
  have HD := Lib.hid hd
  have HR := Lib.hid h
  have h64 := (right_len h).1
  have hl := letS_size d
  clear hd h
  go_enter Try.func11, Try.ntmps11
  go_upto_region 1 with (fail)
  obtain ⟨w1, hw1, hg, hb, hsz⟩ := row_new w (.cells (digA d 32) 29)
  rw [← hw1]
  clear hw1
  go_wp2_with (first | (go_at_call 21; refine (right_is true _ _ hs HR.out).mono ?_; rintro e w' ⟨rfl, rfl⟩) | (refine wpList_load_row rfl 29 _ rfl w.heap.size rfl 29 _ (0, 0) _ hg Try.underlying29 rfl (by rw [digA_size]; exact info32) ?_) | (go_at_call 10; refine (letters_is d HD.out _).mono ?_; rintro e w2 ⟨rfl, hb2⟩))
  go_ret2
  exact ⟨rfl, hb.trans (hb2.mono (by omega))⟩
theorem name_no (d : Nat → Nat) (s : ByteArray) (w : World) (hs : s.size ≤ maxLen) (h : rightB s = false) :
    Calls Try.prog 11 #[.agg (digA d 32), .string s] w fun e w' => e = .returned (.tuple #[.string ⟨#[]⟩, .int .i64 2]) ∧ Below w.heap.size w w' := by
  have HR := Lib.hid h
  clear h
  go_enter Try.func11, Try.ntmps11
  go_wp2_with (first | (go_at_call 21; refine (right_is false _ _ hs HR.out).mono ?_; rintro e w' ⟨rfl, rfl⟩))
  go_ret2
  exact ⟨rfl, (Below.refl _ _).alloc (Nat.le_refl _) _⟩
end Go.Proofs.Ytadlimfpcfdgcaa.Nam
