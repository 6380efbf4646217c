/- Plain facts: the words of SHA-256, its rounds and its blocks. -/
import Derived.WalkKit
import Derived.Laws.BitsAllLaws
import Derived.Lib.Hide
namespace Go.Proofs.YtnenjljcopbdeaaDoor
open Go.RowKit

theorem ret_bool {a b : Bool} (h : a = b) : Ending.returned (.bool a) = .returned (.bool b) := by rw [h]
theorem ret_int {k : IntKind} {a b : Int} (h : a = b) : Ending.returned (.int k a) = .returned (.int k b) := by rw [h]
theorem val_int {k : IntKind} {a b : Int} (h : a = b) : Value.int k a = Value.int k b := by rw [h]

/-! Words. -/
theorem u_lt (a : UInt32) : a.toNat < 4294967296 := a.toNat_lt
theorem u_add (a b : UInt32) : IntKind.u32.wrap ((a.toNat : Int) + (b.toNat : Int)) = ((a + b).toNat : Int) := by
  rw [IntKind.wrap_u32', UInt32.toNat_add]; omega
theorem u_xor (a b : UInt32) : bits .xor .u32 (a.toNat : Int) (b.toNat : Int) = ((a ^^^ b).toNat : Int) := by
  rw [u32_xor_nat _ _ (u_lt a) (u_lt b), UInt32.toNat_xor]
theorem u_or (a b : UInt32) : bits .or .u32 (a.toNat : Int) (b.toNat : Int) = ((a ||| b).toNat : Int) := by
  rw [u32_or_nat _ _ (u_lt a) (u_lt b), UInt32.toNat_or]
theorem u_and (a b : UInt32) : bits .and .u32 (a.toNat : Int) (b.toNat : Int) = ((a &&& b).toNat : Int) := by
  rw [u32_and_nat _ _ (u_lt a) (u_lt b), UInt32.toNat_and]

def shr (x : UInt32) (n : Nat) : UInt32 := UInt32.ofNat (x.toNat / 2 ^ n)
def shl (x : UInt32) (n : Nat) : UInt32 := UInt32.ofNat (x.toNat * 2 ^ n)
def rotr (x : UInt32) (n : Nat) : UInt32 := shr x n ||| shl x (32 - n)
theorem shr_toNat (x : UInt32) (n : Nat) : (shr x n).toNat = x.toNat / 2 ^ n := by
  have h := u_lt x
  have : x.toNat / 2 ^ n ≤ x.toNat := Nat.div_le_self _ _
  rw [shr, UInt32.toNat_ofNat']
  exact Nat.mod_eq_of_lt (Nat.lt_of_le_of_lt this h)
theorem shl_toNat (x : UInt32) (n : Nat) : (shl x n).toNat = x.toNat * 2 ^ n % 4294967296 := by simp [shl, UInt32.toNat_ofNat']
theorem u_shr (x : UInt32) (n : Nat) : (x.toNat : Int) / 2 ^ n = ((shr x n).toNat : Int) := by
  rw [shr_toNat]; push_cast; rfl
theorem u_shl (x : UInt32) (n : Nat) : IntKind.u32.wrap ((x.toNat : Int) * 2 ^ n) = ((shl x n).toNat : Int) := by
  rw [shl_toNat, IntKind.wrap_u32', Int.natCast_emod, Int.natCast_mul, Int.natCast_pow]; rfl
theorem or_comm (a b : UInt32) : a ||| b = b ||| a := by
  apply UInt32.toNat_inj.1; rw [UInt32.toNat_or, UInt32.toNat_or, Nat.or_comm]

theorem u_not (a : UInt32) : bits .xor .u32 4294967295 (a.toNat : Int) = ((~~~a).toNat : Int) := by
  have h : (4294967295 : Int) = ((4294967295 : UInt32).toNat : Int) := rfl
  have e : (4294967295 : UInt32) ^^^ a = ~~~a := by
    apply UInt32.toBitVec_inj.1
    rw [UInt32.toBitVec_xor, UInt32.toBitVec_not, show (4294967295 : UInt32).toBitVec = BitVec.allOnes 32 from by decide +kernel, BitVec.allOnes_xor]
  rw [h, u_xor, e]
theorem ex_xor (a b : UInt32) : ∃ v : UInt32, Hid (v = a ^^^ b) ∧ bits .xor .u32 (a.toNat : Int) (b.toNat : Int) = (v.toNat : Int) := ⟨_, Lib.hid rfl, u_xor a b⟩
theorem ex_and (a b : UInt32) : ∃ v : UInt32, Hid (v = a &&& b) ∧ bits .and .u32 (a.toNat : Int) (b.toNat : Int) = (v.toNat : Int) := ⟨_, Lib.hid rfl, u_and a b⟩
theorem ex_or (a b : UInt32) : ∃ v : UInt32, Hid (v = a ||| b) ∧ bits .or .u32 (a.toNat : Int) (b.toNat : Int) = (v.toNat : Int) := ⟨_, Lib.hid rfl, u_or a b⟩
theorem ex_not (a : UInt32) : ∃ v : UInt32, Hid (v = ~~~a) ∧ bits .xor .u32 IntKind.u32.max (a.toNat : Int) = (v.toNat : Int) := ⟨_, Lib.hid rfl, u_not a⟩
theorem ex_add (a b : UInt32) : ∃ v : UInt32, Hid (v = a + b) ∧ IntKind.u32.wrap ((a.toNat : Int) + (b.toNat : Int)) = (v.toNat : Int) ∧ ((a.toNat : Int) + (b.toNat : Int)) % 4294967296 = (v.toNat : Int) :=
  ⟨_, Lib.hid rfl, u_add a b, by rw [← u_add, IntKind.wrap_u32']⟩
theorem ex_shr (a : UInt32) (n : Nat) : ∃ v : UInt32, Hid (v = shr a n) ∧ (a.toNat : Int) / 2 ^ n = (v.toNat : Int) := ⟨_, Lib.hid rfl, u_shr a n⟩

theorem ch_or (e f g : UInt32) : ((e &&& f) ||| (~~~e &&& g)) = ((e &&& f) ^^^ (~~~e &&& g)) := by
  apply UInt32.toBitVec_inj.1
  simp only [UInt32.toBitVec_or, UInt32.toBitVec_xor, UInt32.toBitVec_and, UInt32.toBitVec_not]
  ext i hi
  simp only [BitVec.getElem_or, BitVec.getElem_xor, BitVec.getElem_and, BitVec.getElem_not]
  cases e.toBitVec[i] <;> cases f.toBitVec[i] <;> cases g.toBitVec[i] <;> rfl
theorem maj_or (a b c : UInt32) : ((a &&& b) ||| (a &&& c) ||| (b &&& c)) = ((a &&& b) ^^^ (a &&& c) ^^^ (b &&& c)) := by
  apply UInt32.toBitVec_inj.1
  simp only [UInt32.toBitVec_or, UInt32.toBitVec_xor, UInt32.toBitVec_and]
  ext i hi
  simp only [BitVec.getElem_or, BitVec.getElem_xor, BitVec.getElem_and]
  cases a.toBitVec[i] <;> cases b.toBitVec[i] <;> cases c.toBitVec[i] <;> rfl

def ch (e f g : UInt32) : UInt32 := (e &&& f) ^^^ (~~~e &&& g)
def maj (a b c : UInt32) : UInt32 := (a &&& b) ^^^ (a &&& c) ^^^ (b &&& c)
def big0 (a : UInt32) : UInt32 := rotr a 2 ^^^ rotr a 13 ^^^ rotr a 22
def big1 (e : UInt32) : UInt32 := rotr e 6 ^^^ rotr e 11 ^^^ rotr e 25
def sml0 (x : UInt32) : UInt32 := rotr x 7 ^^^ rotr x 18 ^^^ shr x 3
def sml1 (y : UInt32) : UInt32 := rotr y 17 ^^^ rotr y 19 ^^^ shr y 10

def kNat : List Nat := [0x428a2f98, 0x71374491, 0xb5c0fbcf, 0xe9b5dba5, 0x3956c25b, 0x59f111f1, 0x923f82a4, 0xab1c5ed5, 0xd807aa98, 0x12835b01, 0x243185be, 0x550c7dc3, 0x72be5d74, 0x80deb1fe, 0x9bdc06a7, 0xc19bf174, 0xe49b69c1, 0xefbe4786, 0x0fc19dc6, 0x240ca1cc, 0x2de92c6f, 0x4a7484aa, 0x5cb0a9dc, 0x76f988da, 0x983e5152, 0xa831c66d, 0xb00327c8, 0xbf597fc7, 0xc6e00bf3, 0xd5a79147, 0x06ca6351, 0x14292967, 0x27b70a85, 0x2e1b2138, 0x4d2c6dfc, 0x53380d13, 0x650a7354, 0x766a0abb, 0x81c2c92e, 0x92722c85, 0xa2bfe8a1, 0xa81a664b, 0xc24b8b70, 0xc76c51a3, 0xd192e819, 0xd6990624, 0xf40e3585, 0x106aa070, 0x19a4c116, 0x1e376c08, 0x2748774c, 0x34b0bcb5, 0x391c0cb3, 0x4ed8aa4a, 0x5b9cca4f, 0x682e6ff3, 0x748f82ee, 0x78a5636f, 0x84c87814, 0x8cc70208, 0x90befffa, 0xa4506ceb, 0xbef9a3f7, 0xc67178f2]
def hNat : List Nat := [0x6a09e667, 0xbb67ae85, 0x3c6ef372, 0xa54ff53a, 0x510e527f, 0x9b05688c, 0x1f83d9ab, 0x5be0cd19]
def kW (t : Nat) : UInt32 := UInt32.ofNat (kNat.getD t 0)
def hW (t : Nat) : UInt32 := UInt32.ofNat (hNat.getD t 0)

/-- The words of a block of bytes: the first 16, and those that follow. -/
def pwn (B : Nat → Nat) (j : Nat) : Nat → Nat
  | 0 => 0
  | m + 1 => pwn B j m * 256 + B (4 * j + m)
theorem pwn_lt (B : Nat → Nat) (hB : ∀ i, B i < 256) (j m : Nat) : pwn B j m < 256 ^ m := by
  induction m with
  | zero => simp [pwn]
  | succ m ih =>
    have := hB (4 * j + m)
    rw [pwn, Nat.pow_succ]
    omega
def word (B : Nat → Nat) (i : Nat) : UInt32 := UInt32.ofNat (pwn B i 4)
/-- The words of the first k bytes. -/
def pw (B : Nat → Nat) (k j : Nat) : UInt32 := UInt32.ofNat (pwn B j (min 4 (k - 4 * j)))
theorem pw_zero (B : Nat → Nat) : pw B 0 = fun _ => 0 := by
  funext j
  simp [pw, pwn]
theorem pw_all (B : Nat → Nat) (j : Nat) (h : j < 16) : pw B 64 j = word B j := by
  rw [pw, word, show min 4 (64 - 4 * j) = 4 from by omega]
theorem pw_other (B : Nat → Nat) (k j : Nat) (h : j ≠ k / 4) : pw B (k + 1) j = pw B k j := by
  rw [pw, pw, show min 4 (k + 1 - 4 * j) = min 4 (k - 4 * j) from by omega]
theorem pw_step (B : Nat → Nat) (hB : ∀ i, B i < 256) (k : Nat) : shl (pw B k (k / 4)) 8 ||| UInt32.ofNat (B k) = pw B (k + 1) (k / 4) := by
  have h4 : k - 4 * (k / 4) = k % 4 := by omega
  have h5 : k + 1 - 4 * (k / 4) = k % 4 + 1 := by omega
  rw [pw, pw, h4, h5, show min 4 (k % 4) = k % 4 from by omega, show min 4 (k % 4 + 1) = k % 4 + 1 from by omega]
  have hp := pwn_lt B hB (k / 4) (k % 4)
  have hle : 256 ^ (k % 4) ≤ 256 ^ 3 := Nat.pow_le_pow_right (by decide) (by omega)
  have hb := hB k
  rw [pwn, show 4 * (k / 4) + k % 4 = k from by omega]
  generalize pwn B (k / 4) (k % 4) = x at *
  generalize B k = c at *
  apply UInt32.toNat_inj.1
  rw [UInt32.toNat_or, shl_toNat, UInt32.toNat_ofNat', UInt32.toNat_ofNat', UInt32.toNat_ofNat', Nat.mod_eq_of_lt (show x < 2 ^ 32 by omega), Nat.mod_eq_of_lt (show c < 2 ^ 32 by omega), Nat.mod_eq_of_lt (show x * 256 + c < 2 ^ 32 by omega), Nat.mod_eq_of_lt (show x * 2 ^ 8 < 4294967296 by omega)]
  rw [Nat.mul_comm x, ← Nat.two_pow_add_eq_or_of_lt (show c < 2 ^ 8 by omega)]
def sched (B : Nat → Nat) : Nat → List UInt32
  | 0 => (List.range 16).map (word B)
  | k + 1 => sched B k ++ [(sched B k).getD k 0 + sml0 ((sched B k).getD (k + 1) 0) + (sched B k).getD (k + 9) 0 + sml1 ((sched B k).getD (k + 14) 0)]
theorem sched_len (B : Nat → Nat) (k : Nat) : (sched B k).length = 16 + k := by
  induction k with
  | zero => simp [sched]
  | succ k ih => simp [sched, ih]; omega
def wAt (B : Nat → Nat) (t : Nat) : UInt32 := (sched B 48).getD t 0
theorem sched_pre (B : Nat → Nat) (k m t : Nat) (h : t < 16 + k) : (sched B (k + m)).getD t 0 = (sched B k).getD t 0 := by
  induction m with
  | zero => rfl
  | succ m ih =>
    rw [← ih, ← Nat.add_assoc]
    simp only [sched, List.getD_eq_getElem?_getD]
    rw [List.getElem?_append_left (by rw [sched_len]; omega)]
theorem wAt_low (B : Nat → Nat) (t : Nat) (h : t < 16) : wAt B t = word B t := by
  have := sched_pre B 0 48 t (by omega)
  rw [Nat.zero_add] at this
  unfold wAt
  rw [this]
  simp [sched, h]
theorem sched_succ (B : Nat → Nat) (k : Nat) : (sched B (k + 1)).getD (k + 16) 0 = (sched B k).getD k 0 + sml0 ((sched B k).getD (k + 1) 0) + (sched B k).getD (k + 9) 0 + sml1 ((sched B k).getD (k + 14) 0) := by
  have hl := sched_len B k
  simp only [sched]
  generalize sched B k = l at hl
  generalize l.getD k 0 + sml0 (l.getD (k + 1) 0) + l.getD (k + 9) 0 + sml1 (l.getD (k + 14) 0) = y
  rw [List.getD_eq_getElem?_getD, List.getElem?_append_right (by omega), hl, show k + 16 - (16 + k) = 0 from by omega]
  rfl
theorem wAt_pre (B : Nat → Nat) (k t : Nat) (hk : k ≤ 48) (h : t < 16 + k) : wAt B t = (sched B k).getD t 0 := by
  have := sched_pre B k (48 - k) t h
  rw [show k + (48 - k) = 48 from by omega] at this
  exact this
theorem wAt_up (B : Nat → Nat) (k : Nat) (h : k < 48) : wAt B (k + 16) = wAt B k + sml0 (wAt B (k + 1)) + wAt B (k + 9) + sml1 (wAt B (k + 14)) := by
  have e := sched_succ B k
  have e0 := wAt_pre B (k + 1) (k + 16) (by omega) (by omega)
  have e1 := wAt_pre B k k (by omega) (by omega)
  have e2 := wAt_pre B k (k + 1) (by omega) (by omega)
  have e3 := wAt_pre B k (k + 9) (by omega) (by omega)
  have e4 := wAt_pre B k (k + 14) (by omega) (by omega)
  simp only [e0, e1, e2, e3, e4, e]

structure St where
  a : UInt32
  b : UInt32
  c : UInt32
  d : UInt32
  e : UInt32
  f : UInt32
  g : UInt32
  h : UInt32
def tA (k w : UInt32) (s : St) : UInt32 := s.h + big1 s.e + ch s.e s.f s.g + k + w
def tB (s : St) : UInt32 := big0 s.a + maj s.a s.b s.c
def rnd (k w : UInt32) (s : St) : St := ⟨tA k w s + tB s, s.a, s.b, s.c, s.d + tA k w s, s.e, s.f, s.g⟩
def stOf (c : Nat → UInt32) : St := ⟨c 0, c 1, c 2, c 3, c 4, c 5, c 6, c 7⟩
def St.at (s : St) : Nat → UInt32
  | 0 => s.a | 1 => s.b | 2 => s.c | 3 => s.d | 4 => s.e | 5 => s.f | 6 => s.g | _ => s.h
def rounds (W : Nat → UInt32) (s : St) : Nat → St
  | 0 => s
  | t + 1 => rnd (kW t) (W t) (rounds W s t)
/-- A chain into which a block has gone. -/
def block (c : Nat → UInt32) (B : Nat → Nat) (i : Nat) : UInt32 := (rounds (wAt B) (stOf c) 64).at i + c i
def chainN (L : Nat → Nat) (c : Nat → UInt32) : Nat → Nat → UInt32
  | 0 => c
  | k + 1 => block (chainN L c k) (fun i => L (64 * k + i))

/-- Arrays of bytes and of words. -/
def cells (d : Nat → Nat) (n : Nat) : List Value := (List.range n).map fun i => Value.int .u8 (d i : Int)
def digA (d : Nat → Nat) (n : Nat) : Array Value := (cells d n).toArray
theorem digA_size (d : Nat → Nat) (n : Nat) : (digA d n).size = n := by simp [digA, cells]
theorem digA_get (d : Nat → Nat) (n i : Nat) (h : i < n) : (digA d n)[i]? = some (.int .u8 (d i : Int)) := by
  simp [digA, cells, h]
theorem cells_succ (d : Nat → Nat) (k : Nat) : cells d (k + 1) = cells d k ++ [Value.int .u8 (d k : Int)] := by simp [cells, List.range_succ]
theorem cells_len (d : Nat → Nat) (k : Nat) : (cells d k).length = k := by simp [cells]
theorem cells_get (d : Nat → Nat) (n i : Nat) (h : i < n) : (cells d n)[i]? = some (.int .u8 (d i : Int)) := by simp [cells, h]
def wcells (c : Nat → UInt32) (n : Nat) : List Value := (List.range n).map fun i => Value.int .u32 ((c i).toNat : Int)
def wrow (c : Nat → UInt32) (n : Nat) : Array Value := (wcells c n).toArray
theorem wrow_size (c : Nat → UInt32) (n : Nat) : (wrow c n).size = n := by simp [wrow, wcells]
theorem wrow_get (c : Nat → UInt32) (n i : Nat) (h : i < n) : (wrow c n)[i]? = some (.int .u32 ((c i).toNat : Int)) := by simp [wrow, wcells, h]
theorem wcells_succ (c : Nat → UInt32) (k : Nat) : wcells c (k + 1) = wcells c k ++ [Value.int .u32 ((c k).toNat : Int)] := by simp [wcells, List.range_succ]
theorem wcells_len (c : Nat → UInt32) (k : Nat) : (wcells c k).length = k := by simp [wcells]
theorem wcells_get (c : Nat → UInt32) (n i : Nat) (h : i < n) : (wcells c n)[i]? = some (.int .u32 ((c i).toNat : Int)) := by simp [wcells, h]
theorem wrow8 (c : Nat → UInt32) : wrow c 8 = #[.int .u32 ((c 0).toNat : Int), .int .u32 ((c 1).toNat : Int), .int .u32 ((c 2).toNat : Int), .int .u32 ((c 3).toNat : Int), .int .u32 ((c 4).toNat : Int), .int .u32 ((c 5).toNat : Int), .int .u32 ((c 6).toNat : Int), .int .u32 ((c 7).toNat : Int)] := rfl
end Go.Proofs.YtnenjljcopbdeaaDoor
