/- Plain facts: the words of SHA-256, its rounds and its blocks. -/
import Derived.WalkKit
import Derived.Laws.BitsAllLaws
import Derived.Lib.Hide
import Derived.Test.YtbniilajffjfcaaGreatDoorRows
import Derived.WalkSpells
import Derived.WalkLawsBesides
import Derived.BigQuiet
import Derived.Deep.QuietTactic
import Derived.IntWalk
import Derived.Laws.Tables
import Derived.Laws.Rows
import Derived.Deep.Cut
import Derived.OwnWalk
import Derived.WalkSmall
import Derived.Below
import Derived.ChangeKeysEq
import Derived.StillTailTactics
import Derived.Outline
set_option linter.unusedVariables false
set_option linter.unusedSimpArgs false
namespace Go.Proofs.YtbniilajffjfcaaGreatDoor.Sha
open Go.RowKit

theorem ret_bool {a b : Bool} (h : a = b) : Ending.returned (.bool a) = .returned (.bool b) := by rw [h]
theorem ret_int {k : IntKind} {a b : Int} (h : a = b) : Ending.returned (.int k a) = .returned (.int k b) := by rw [h]
theorem val_int {k : IntKind} {a b : Int} (h : a = b) : Value.int k a = Value.int k b := by rw [h]

/-! Words. -/
theorem u_lt (a : UInt32) : a.toNat < 4294967296 := a.toNat_lt
theorem u_add (a b : UInt32) : IntKind.u32.wrap ((a.toNat : Int) + (b.toNat : Int)) = ((a + b).toNat : Int) := by
  rw [IntKind.wrap_u32', UInt32.toNat_add]; omega
theorem u_xor (a b : UInt32) : bits .xor .u32 (a.toNat : Int) (b.toNat : Int) = ((a ^^^ b).toNat : Int) := by
  rw [u32_xor_nat _ _ (u_lt a) (u_lt b), UInt32.toNat_xor]
theorem u_or (a b : UInt32) : bits .or .u32 (a.toNat : Int) (b.toNat : Int) = ((a ||| b).toNat : Int) := by
  rw [u32_or_nat _ _ (u_lt a) (u_lt b), UInt32.toNat_or]
theorem u_and (a b : UInt32) : bits .and .u32 (a.toNat : Int) (b.toNat : Int) = ((a &&& b).toNat : Int) := by
  rw [u32_and_nat _ _ (u_lt a) (u_lt b), UInt32.toNat_and]

def shr (x : UInt32) (n : Nat) : UInt32 := UInt32.ofNat (x.toNat / 2 ^ n)
def shl (x : UInt32) (n : Nat) : UInt32 := UInt32.ofNat (x.toNat * 2 ^ n)
def rotr (x : UInt32) (n : Nat) : UInt32 := shr x n ||| shl x (32 - n)
theorem shr_toNat (x : UInt32) (n : Nat) : (shr x n).toNat = x.toNat / 2 ^ n := by
  have h := u_lt x
  have : x.toNat / 2 ^ n ≤ x.toNat := Nat.div_le_self _ _
  rw [shr, UInt32.toNat_ofNat']
  exact Nat.mod_eq_of_lt (Nat.lt_of_le_of_lt this h)
theorem shl_toNat (x : UInt32) (n : Nat) : (shl x n).toNat = x.toNat * 2 ^ n % 4294967296 := by simp [shl, UInt32.toNat_ofNat']
theorem u_shr (x : UInt32) (n : Nat) : (x.toNat : Int) / 2 ^ n = ((shr x n).toNat : Int) := by
  rw [shr_toNat]; push_cast; rfl
theorem u_shl (x : UInt32) (n : Nat) : IntKind.u32.wrap ((x.toNat : Int) * 2 ^ n) = ((shl x n).toNat : Int) := by
  rw [shl_toNat, IntKind.wrap_u32', Int.natCast_emod, Int.natCast_mul, Int.natCast_pow]; rfl
theorem or_comm (a b : UInt32) : a ||| b = b ||| a := by
  apply UInt32.toNat_inj.1; rw [UInt32.toNat_or, UInt32.toNat_or, Nat.or_comm]

theorem u_not (a : UInt32) : bits .xor .u32 4294967295 (a.toNat : Int) = ((~~~a).toNat : Int) := by
  have h : (4294967295 : Int) = ((4294967295 : UInt32).toNat : Int) := rfl
  have e : (4294967295 : UInt32) ^^^ a = ~~~a := by
    apply UInt32.toBitVec_inj.1
    rw [UInt32.toBitVec_xor, UInt32.toBitVec_not, show (4294967295 : UInt32).toBitVec = BitVec.allOnes 32 from by decide +kernel, BitVec.allOnes_xor]
  rw [h, u_xor, e]
theorem ex_xor (a b : UInt32) : ∃ v : UInt32, Hid (v = a ^^^ b) ∧ bits .xor .u32 (a.toNat : Int) (b.toNat : Int) = (v.toNat : Int) := ⟨_, Lib.hid rfl, u_xor a b⟩
theorem ex_and (a b : UInt32) : ∃ v : UInt32, Hid (v = a &&& b) ∧ bits .and .u32 (a.toNat : Int) (b.toNat : Int) = (v.toNat : Int) := ⟨_, Lib.hid rfl, u_and a b⟩
theorem ex_or (a b : UInt32) : ∃ v : UInt32, Hid (v = a ||| b) ∧ bits .or .u32 (a.toNat : Int) (b.toNat : Int) = (v.toNat : Int) := ⟨_, Lib.hid rfl, u_or a b⟩
theorem ex_not (a : UInt32) : ∃ v : UInt32, Hid (v = ~~~a) ∧ bits .xor .u32 IntKind.u32.max (a.toNat : Int) = (v.toNat : Int) := ⟨_, Lib.hid rfl, u_not a⟩
theorem ex_add (a b : UInt32) : ∃ v : UInt32, Hid (v = a + b) ∧ IntKind.u32.wrap ((a.toNat : Int) + (b.toNat : Int)) = (v.toNat : Int) ∧ ((a.toNat : Int) + (b.toNat : Int)) % 4294967296 = (v.toNat : Int) :=
  ⟨_, Lib.hid rfl, u_add a b, by rw [← u_add, IntKind.wrap_u32']⟩
theorem ex_shr (a : UInt32) (n : Nat) : ∃ v : UInt32, Hid (v = shr a n) ∧ (a.toNat : Int) / 2 ^ n = (v.toNat : Int) := ⟨_, Lib.hid rfl, u_shr a n⟩

theorem ch_or (e f g : UInt32) : ((e &&& f) ||| (~~~e &&& g)) = ((e &&& f) ^^^ (~~~e &&& g)) := by
  apply UInt32.toBitVec_inj.1
  simp only [UInt32.toBitVec_or, UInt32.toBitVec_xor, UInt32.toBitVec_and, UInt32.toBitVec_not]
  ext i hi
  simp only [BitVec.getElem_or, BitVec.getElem_xor, BitVec.getElem_and, BitVec.getElem_not]
  cases e.toBitVec[i] <;> cases f.toBitVec[i] <;> cases g.toBitVec[i] <;> rfl
theorem maj_or (a b c : UInt32) : ((a &&& b) ||| (a &&& c) ||| (b &&& c)) = ((a &&& b) ^^^ (a &&& c) ^^^ (b &&& c)) := by
  apply UInt32.toBitVec_inj.1
  simp only [UInt32.toBitVec_or, UInt32.toBitVec_xor, UInt32.toBitVec_and]
  ext i hi
  simp only [BitVec.getElem_or, BitVec.getElem_xor, BitVec.getElem_and]
  cases a.toBitVec[i] <;> cases b.toBitVec[i] <;> cases c.toBitVec[i] <;> rfl

def ch (e f g : UInt32) : UInt32 := (e &&& f) ^^^ (~~~e &&& g)
def maj (a b c : UInt32) : UInt32 := (a &&& b) ^^^ (a &&& c) ^^^ (b &&& c)
def big0 (a : UInt32) : UInt32 := rotr a 2 ^^^ rotr a 13 ^^^ rotr a 22
def big1 (e : UInt32) : UInt32 := rotr e 6 ^^^ rotr e 11 ^^^ rotr e 25
def sml0 (x : UInt32) : UInt32 := rotr x 7 ^^^ rotr x 18 ^^^ shr x 3
def sml1 (y : UInt32) : UInt32 := rotr y 17 ^^^ rotr y 19 ^^^ shr y 10

def kNat : List Nat := [0x428a2f98, 0x71374491, 0xb5c0fbcf, 0xe9b5dba5, 0x3956c25b, 0x59f111f1, 0x923f82a4, 0xab1c5ed5, 0xd807aa98, 0x12835b01, 0x243185be, 0x550c7dc3, 0x72be5d74, 0x80deb1fe, 0x9bdc06a7, 0xc19bf174, 0xe49b69c1, 0xefbe4786, 0x0fc19dc6, 0x240ca1cc, 0x2de92c6f, 0x4a7484aa, 0x5cb0a9dc, 0x76f988da, 0x983e5152, 0xa831c66d, 0xb00327c8, 0xbf597fc7, 0xc6e00bf3, 0xd5a79147, 0x06ca6351, 0x14292967, 0x27b70a85, 0x2e1b2138, 0x4d2c6dfc, 0x53380d13, 0x650a7354, 0x766a0abb, 0x81c2c92e, 0x92722c85, 0xa2bfe8a1, 0xa81a664b, 0xc24b8b70, 0xc76c51a3, 0xd192e819, 0xd6990624, 0xf40e3585, 0x106aa070, 0x19a4c116, 0x1e376c08, 0x2748774c, 0x34b0bcb5, 0x391c0cb3, 0x4ed8aa4a, 0x5b9cca4f, 0x682e6ff3, 0x748f82ee, 0x78a5636f, 0x84c87814, 0x8cc70208, 0x90befffa, 0xa4506ceb, 0xbef9a3f7, 0xc67178f2]
def hNat : List Nat := [0x6a09e667, 0xbb67ae85, 0x3c6ef372, 0xa54ff53a, 0x510e527f, 0x9b05688c, 0x1f83d9ab, 0x5be0cd19]
def kW (t : Nat) : UInt32 := UInt32.ofNat (kNat.getD t 0)
def hW (t : Nat) : UInt32 := UInt32.ofNat (hNat.getD t 0)

/-- The words of a block of bytes: the first 16, and those that follow. -/
def pwn (B : Nat → Nat) (j : Nat) : Nat → Nat
  | 0 => 0
  | m + 1 => pwn B j m * 256 + B (4 * j + m)
theorem pwn_lt (B : Nat → Nat) (hB : ∀ i, B i < 256) (j m : Nat) : pwn B j m < 256 ^ m := by
  induction m with
  | zero => simp [pwn]
  | succ m ih =>
    have := hB (4 * j + m)
    rw [pwn, Nat.pow_succ]
    omega
def word (B : Nat → Nat) (i : Nat) : UInt32 := UInt32.ofNat (pwn B i 4)
/-- The words of the first k bytes. -/
def pw (B : Nat → Nat) (k j : Nat) : UInt32 := UInt32.ofNat (pwn B j (min 4 (k - 4 * j)))
theorem pw_zero (B : Nat → Nat) : pw B 0 = fun _ => 0 := by
  funext j
  simp [pw, pwn]
theorem pw_all (B : Nat → Nat) (j : Nat) (h : j < 16) : pw B 64 j = word B j := by
  rw [pw, word, show min 4 (64 - 4 * j) = 4 from by omega]
theorem pw_other (B : Nat → Nat) (k j : Nat) (h : j ≠ k / 4) : pw B (k + 1) j = pw B k j := by
  rw [pw, pw, show min 4 (k + 1 - 4 * j) = min 4 (k - 4 * j) from by omega]
theorem pw_step (B : Nat → Nat) (hB : ∀ i, B i < 256) (k : Nat) : shl (pw B k (k / 4)) 8 ||| UInt32.ofNat (B k) = pw B (k + 1) (k / 4) := by
  have h4 : k - 4 * (k / 4) = k % 4 := by omega
  have h5 : k + 1 - 4 * (k / 4) = k % 4 + 1 := by omega
  rw [pw, pw, h4, h5, show min 4 (k % 4) = k % 4 from by omega, show min 4 (k % 4 + 1) = k % 4 + 1 from by omega]
  have hp := pwn_lt B hB (k / 4) (k % 4)
  have hle : 256 ^ (k % 4) ≤ 256 ^ 3 := Nat.pow_le_pow_right (by decide) (by omega)
  have hb := hB k
  rw [pwn, show 4 * (k / 4) + k % 4 = k from by omega]
  generalize pwn B (k / 4) (k % 4) = x at *
  generalize B k = c at *
  apply UInt32.toNat_inj.1
  rw [UInt32.toNat_or, shl_toNat, UInt32.toNat_ofNat', UInt32.toNat_ofNat', UInt32.toNat_ofNat', Nat.mod_eq_of_lt (show x < 2 ^ 32 by omega), Nat.mod_eq_of_lt (show c < 2 ^ 32 by omega), Nat.mod_eq_of_lt (show x * 256 + c < 2 ^ 32 by omega), Nat.mod_eq_of_lt (show x * 2 ^ 8 < 4294967296 by omega)]
  rw [Nat.mul_comm x, ← Nat.two_pow_add_eq_or_of_lt (show c < 2 ^ 8 by omega)]
def sched (B : Nat → Nat) : Nat → List UInt32
  | 0 => (List.range 16).map (word B)
  | k + 1 => sched B k ++ [(sched B k).getD k 0 + sml0 ((sched B k).getD (k + 1) 0) + (sched B k).getD (k + 9) 0 + sml1 ((sched B k).getD (k + 14) 0)]
theorem sched_len (B : Nat → Nat) (k : Nat) : (sched B k).length = 16 + k := by
  induction k with
  | zero => simp [sched]
  | succ k ih => simp [sched, ih]; omega
def wAt (B : Nat → Nat) (t : Nat) : UInt32 := (sched B 48).getD t 0
theorem sched_pre (B : Nat → Nat) (k m t : Nat) (h : t < 16 + k) : (sched B (k + m)).getD t 0 = (sched B k).getD t 0 := by
  induction m with
  | zero => rfl
  | succ m ih =>
    rw [← ih, ← Nat.add_assoc]
    simp only [sched, List.getD_eq_getElem?_getD]
    rw [List.getElem?_append_left (by rw [sched_len]; omega)]
theorem wAt_low (B : Nat → Nat) (t : Nat) (h : t < 16) : wAt B t = word B t := by
  have := sched_pre B 0 48 t (by omega)
  rw [Nat.zero_add] at this
  unfold wAt
  rw [this]
  simp [sched, h]
theorem sched_succ (B : Nat → Nat) (k : Nat) : (sched B (k + 1)).getD (k + 16) 0 = (sched B k).getD k 0 + sml0 ((sched B k).getD (k + 1) 0) + (sched B k).getD (k + 9) 0 + sml1 ((sched B k).getD (k + 14) 0) := by
  have hl := sched_len B k
  simp only [sched]
  generalize sched B k = l at hl
  generalize l.getD k 0 + sml0 (l.getD (k + 1) 0) + l.getD (k + 9) 0 + sml1 (l.getD (k + 14) 0) = y
  rw [List.getD_eq_getElem?_getD, List.getElem?_append_right (by omega), hl, show k + 16 - (16 + k) = 0 from by omega]
  rfl
theorem wAt_pre (B : Nat → Nat) (k t : Nat) (hk : k ≤ 48) (h : t < 16 + k) : wAt B t = (sched B k).getD t 0 := by
  have := sched_pre B k (48 - k) t h
  rw [show k + (48 - k) = 48 from by omega] at this
  exact this
theorem wAt_up (B : Nat → Nat) (k : Nat) (h : k < 48) : wAt B (k + 16) = wAt B k + sml0 (wAt B (k + 1)) + wAt B (k + 9) + sml1 (wAt B (k + 14)) := by
  have e := sched_succ B k
  have e0 := wAt_pre B (k + 1) (k + 16) (by omega) (by omega)
  have e1 := wAt_pre B k k (by omega) (by omega)
  have e2 := wAt_pre B k (k + 1) (by omega) (by omega)
  have e3 := wAt_pre B k (k + 9) (by omega) (by omega)
  have e4 := wAt_pre B k (k + 14) (by omega) (by omega)
  simp only [e0, e1, e2, e3, e4, e]

structure St where
  a : UInt32
  b : UInt32
  c : UInt32
  d : UInt32
  e : UInt32
  f : UInt32
  g : UInt32
  h : UInt32
def tA (k w : UInt32) (s : St) : UInt32 := s.h + big1 s.e + ch s.e s.f s.g + k + w
def tB (s : St) : UInt32 := big0 s.a + maj s.a s.b s.c
def rnd (k w : UInt32) (s : St) : St := ⟨tA k w s + tB s, s.a, s.b, s.c, s.d + tA k w s, s.e, s.f, s.g⟩
def stOf (c : Nat → UInt32) : St := ⟨c 0, c 1, c 2, c 3, c 4, c 5, c 6, c 7⟩
def St.at (s : St) : Nat → UInt32
  | 0 => s.a | 1 => s.b | 2 => s.c | 3 => s.d | 4 => s.e | 5 => s.f | 6 => s.g | _ => s.h
def rounds (W : Nat → UInt32) (s : St) : Nat → St
  | 0 => s
  | t + 1 => rnd (kW t) (W t) (rounds W s t)
/-- A chain into which a block has gone. -/
def block (c : Nat → UInt32) (B : Nat → Nat) (i : Nat) : UInt32 := (rounds (wAt B) (stOf c) 64).at i + c i
def chainN (L : Nat → Nat) (c : Nat → UInt32) : Nat → Nat → UInt32
  | 0 => c
  | k + 1 => block (chainN L c k) (fun i => L (64 * k + i))

/-- Arrays of bytes and of words. -/
def cells (d : Nat → Nat) (n : Nat) : List Value := (List.range n).map fun i => Value.int .u8 (d i : Int)
def digA (d : Nat → Nat) (n : Nat) : Array Value := (cells d n).toArray
theorem digA_size (d : Nat → Nat) (n : Nat) : (digA d n).size = n := by simp [digA, cells]
theorem digA_get (d : Nat → Nat) (n i : Nat) (h : i < n) : (digA d n)[i]? = some (.int .u8 (d i : Int)) := by
  simp [digA, cells, h]
theorem cells_succ (d : Nat → Nat) (k : Nat) : cells d (k + 1) = cells d k ++ [Value.int .u8 (d k : Int)] := by simp [cells, List.range_succ]
theorem cells_len (d : Nat → Nat) (k : Nat) : (cells d k).length = k := by simp [cells]
theorem cells_get (d : Nat → Nat) (n i : Nat) (h : i < n) : (cells d n)[i]? = some (.int .u8 (d i : Int)) := by simp [cells, h]
def wcells (c : Nat → UInt32) (n : Nat) : List Value := (List.range n).map fun i => Value.int .u32 ((c i).toNat : Int)
def wrow (c : Nat → UInt32) (n : Nat) : Array Value := (wcells c n).toArray
theorem wrow_size (c : Nat → UInt32) (n : Nat) : (wrow c n).size = n := by simp [wrow, wcells]
theorem wrow_get (c : Nat → UInt32) (n i : Nat) (h : i < n) : (wrow c n)[i]? = some (.int .u32 ((c i).toNat : Int)) := by simp [wrow, wcells, h]
theorem wcells_succ (c : Nat → UInt32) (k : Nat) : wcells c (k + 1) = wcells c k ++ [Value.int .u32 ((c k).toNat : Int)] := by simp [wcells, List.range_succ]
theorem wcells_len (c : Nat → UInt32) (k : Nat) : (wcells c k).length = k := by simp [wcells]
theorem wcells_get (c : Nat → UInt32) (n i : Nat) (h : i < n) : (wcells c n)[i]? = some (.int .u32 ((c i).toNat : Int)) := by simp [wcells, h]
theorem wrow8 (c : Nat → UInt32) : wrow c 8 = #[.int .u32 ((c 0).toNat : Int), .int .u32 ((c 1).toNat : Int), .int .u32 ((c 2).toNat : Int), .int .u32 ((c 3).toNat : Int), .int .u32 ((c 4).toNat : Int), .int .u32 ((c 5).toNat : Int), .int .u32 ((c 6).toNat : Int), .int .u32 ((c 7).toNat : Int)] := rfl
end Go.Proofs.YtbniilajffjfcaaGreatDoor.Sha

/- Contracts of right, of the reference's turned, and of the words of a block. -/
namespace Go.Proofs.YtbniilajffjfcaaGreatDoor.Sha
open Go.RowKit

theorem turn_no (n : Nat) (h0 : 0 < n) (h : n < 32) : bits BinOp.and IntKind.u64 (IntKind.u64.wrap (-(n : Int))) 31 = ((32 - n : Nat) : Int) := by
  have e : ∀ n : Fin 32, 0 < n.val → bits BinOp.and IntKind.u64 (IntKind.u64.wrap (-(n.val : Int))) 31 = ((32 - n.val : Nat) : Int) := by decide +kernel
  exact e ⟨n, h⟩ h0

theorem shl_mod (x : UInt32) (k : Nat) : (x.toNat : Int) * 2 ^ k % 4294967296 = ((shl x k).toNat : Int) := by
  rw [← u_shl, IntKind.wrap_u32']
theorem rot_left (x : UInt32) (n : Nat) (h : n < 32) : bits BinOp.or IntKind.u32 ((x.toNat : Int) * 2 ^ (32 - n) % 4294967296) ((x.toNat : Int) / 2 ^ (32 - (32 - n))) = ((rotr x n).toNat : Int) := by
  rw [shl_mod, u_shr, u_or, or_comm, show 32 - (32 - n) = n from by omega]; rfl
theorem rot_right (x : UInt32) (n : Nat) : bits BinOp.or IntKind.u32 ((x.toNat : Int) / 2 ^ n) ((x.toNat : Int) * 2 ^ (32 - n) % 4294967296) = ((rotr x n).toNat : Int) := by
  rw [shl_mod, u_shr, u_or]; rfl

set_option maxRecDepth 100000 in
set_option maxHeartbeats 400000 in
theorem rotate_any (x : UInt32) (n : Nat) (w : World) (h0 : 0 < n) (h : n < 32) :
    Calls Tryz.prog 106 #[.int .u32 (x.toNat : Int), .int .i64 (-(n : Int))] w fun e w' => e = .returned (.int .u32 ((rotr x n).toNat : Int)) ∧ w = w' := by
  have HN := turn_no n h0 h
  go_enter Tryz.func106, Tryz.ntmps106
  go_wp2
  go_ret
  exact ⟨ret_int (rot_left x n h), rfl⟩
set_option maxRecDepth 100000 in
set_option maxHeartbeats 400000 in
theorem right_any (x : UInt32) (n : Nat) (w : World) (h0 : 0 < n) (h : n < 32) :
    Calls Tryz.prog 97 #[.int .u32 (x.toNat : Int), .int .i64 (n : Int)] w fun e w' => e = .returned (.int .u32 ((rotr x n).toNat : Int)) ∧ w = w' := by
  go_enter Tryz.func97, Tryz.ntmps97
  go_wp2_with (go_at_call 106; refine (rotate_any x n _ h0 h).mono ?_; rintro e w' ⟨rfl, rfl⟩)
  go_ret
  exact ⟨rfl, rfl⟩
theorem right_at (n : Nat) (x : UInt32) (m : Int) (w : World) (hm : m = (n : Int)) (h0 : 0 < n) (h : n < 32) :
    Calls Tryz.prog 97 #[.int .u32 (x.toNat : Int), .int .i64 m] w fun e w' => e = .returned (.int .u32 ((rotr x n).toNat : Int)) ∧ w' = w :=
  hm ▸ (right_any x n w h0 h).mono fun _ _ ⟨a, b⟩ => ⟨a, b.symm⟩
set_option maxRecDepth 100000 in
set_option maxHeartbeats 400000 in
theorem turned_any (x : UInt32) (n : Nat) (w : World) (h0 : 0 < n) (h : n < 32) :
    Calls Tryz.prog 81 #[.int .u32 (x.toNat : Int), .int .i64 (n : Int)] w fun e w' => e = .returned (.int .u32 ((rotr x n).toNat : Int)) ∧ ∃ nq, w' = w.drewN nq := by
  go_enter Tryz.func81, Tryz.ntmps81
  go_wp2
  go_quiet (fail)
  go_wp2
  go_ret
  exact ⟨ret_int (rot_right x n), nq, rfl⟩
theorem turned_at (n : Nat) (x : UInt32) (m : Int) (w : World) (hm : m = (n : Int)) (h0 : 0 < n) (h : n < 32) :
    Calls Tryz.prog 81 #[.int .u32 (x.toNat : Int), .int .i64 m] w fun e w' => e = .returned (.int .u32 ((rotr x n).toNat : Int)) ∧ ∃ nq, w' = w.drewN nq :=
  hm ▸ turned_any x n w h0 h
end Go.Proofs.YtbniilajffjfcaaGreatDoor.Sha

/- Small laws on memory, and the contract of the words of a block. -/
namespace Go.Proofs.YtbniilajffjfcaaGreatDoor.Sha
open Go.RowKit

theorem cellsU8 : Tryz.prog.cellsOf 5 = 1 := by kernel_rfl
theorem cellsU32 : Tryz.prog.cellsOf 97 = 1 := by kernel_rfl
theorem infoU8 : (Tryz.prog.info? 5).map (fun i => (i.zero, i.size, i.bytes)) = some (some (.int .u8 0), 1, 1) := by kernel_rfl
theorem infoU32 : (Tryz.prog.info? 97).map (fun i => (i.zero, i.size, i.bytes)) = some (some (.int .u32 0), 1, 4) := by kernel_rfl
theorem info64 : (Tryz.prog.info? 104).map (·.size) = some 64 := by kernel_rfl
theorem info16w : (Tryz.prog.info? 138).map (·.size) = some 16 := by kernel_rfl
theorem info8w : (Tryz.prog.info? 98).map (·.size) = some 8 := by kernel_rfl
theorem info32 : (Tryz.prog.info? 24).map (·.size) = some 32 := by kernel_rfl

theorem run_index_row {P : Program} (w : World) (T e : TypeId) (n : Nat) (q : IntKind) (hT : P.underlying T = some (.array n e)) (he : P.underlying e = some (.int q)) (h1 : P.cellsOf e = 1) (cs : Array Value) (i : Nat) (v : Value) (hi : i < n) (hv : cs[i]? = some v) :
    (Instr.index T (.agg cs) (.int .i64 (i : Int))).run P w = .ok v w := by
  have hp : P.plainKey e = true := by simp [Program.plainKey, he]
  obtain ⟨i0, hi0⟩ := info_of_underlying he
  have hlt : (0 : Int) ≤ (i : Int) ∧ (i : Int) < (n : Int) := by omega
  simp only [Instr.index, asIntOf, Sem.run_bind, Sem.run_pure, Result.andThen_ok, run_underlying hT, if_pos hlt, run_sizeOf w hi0, h1, Nat.mul_one, Int.toNat_natCast]
  exact run_part_plain w hp hv

theorem row_ok (l : List Value) (h : ∀ v ∈ l, v.oneCell' = true) : l.toArray.all (·.oneCell') = true := by
  rw [Array.all_eq_true_iff_forall_mem]
  intro v hv
  exact h v (by simpa using hv)
theorem digA_ok (d : Nat → Nat) (n : Nat) : (digA d n).all (·.oneCell') = true := row_ok _ fun v hv => by
  simp [cells] at hv
  obtain ⟨i, _, rfl⟩ := hv
  rfl
theorem wrow_ok (c : Nat → UInt32) (n : Nat) : (wrow c n).all (·.oneCell') = true := row_ok _ fun v hv => by
  simp [wcells] at hv
  obtain ⟨i, _, rfl⟩ := hv
  rfl
theorem digA_congr (d e : Nat → Nat) (n : Nat) (h : ∀ i, i < n → d i = e i) : digA d n = digA e n := by
  unfold digA cells
  exact congrArg List.toArray (List.map_congr_left fun i hi => by rw [h i (by simpa using hi)])
theorem wrow_congr (d e : Nat → UInt32) (n : Nat) (h : ∀ i, i < n → d i = e i) : wrow d n = wrow e n := by
  unfold wrow wcells
  exact congrArg List.toArray (List.map_congr_left fun i hi => by rw [h i (by simpa using hi)])
theorem wrow_set (c e : Nat → UInt32) (n a : Nat) (h1 : ∀ i, i < n → i ≠ a → c i = e i) : (wrow c n).setIfInBounds a (.int .u32 ((e a).toNat : Int)) = wrow e n := by
  apply Array.ext
  · simp [wrow_size]
  · intro i h2 h3
    have hi : i < n := by simpa [wrow_size] using h3
    apply Option.some.inj
    rw [← Array.getElem?_eq_getElem, ← Array.getElem?_eq_getElem, Array.getElem?_setIfInBounds, wrow_get _ _ _ hi, wrow_get _ _ _ hi]
    by_cases h : a = i
    · subst h; simp [wrow_size, hi]
    · rw [if_neg h, h1 i hi (fun e => h e.symm)]
theorem digA_set (c e : Nat → Nat) (n a : Nat) (h1 : ∀ i, i < n → i ≠ a → c i = e i) : (digA c n).setIfInBounds a (.int .u8 (e a : Int)) = digA e n := by
  apply Array.ext
  · simp [digA_size]
  · intro i h2 h3
    have hi : i < n := by simpa [digA_size] using h3
    apply Option.some.inj
    rw [← Array.getElem?_eq_getElem, ← Array.getElem?_eq_getElem, Array.getElem?_setIfInBounds, digA_get _ _ _ hi, digA_get _ _ _ hi]
    by_cases h : a = i
    · subst h; simp [digA_size, hi]
    · rw [if_neg h, h1 i hi (fun e => h e.symm)]
theorem below_setRow {B g : Nat} {W w1 : World} (h : Below B W w1) (hg : B ≤ g) (cs : Array Value) : Below B W (w1.setRow g cs) := by
  refine ⟨h.os, h.tape, h.output, by simp; exact h.size, fun k hk => ?_⟩
  rw [setRow_other w1 g k cs (by omega)]
  exact h.block k hk
theorem below_step {B : Nat} {w w1 w2 : World} (h : Below B w w1) (h2 : Below w1.heap.size w1 w2) (hB : B ≤ w1.heap.size) : Below B w w2 := h.trans (h2.mono hB)
theorem below_drewN {B : Nat} {w w1 : World} (h : Below B w w1) (n : Nat) : Below B w (w1.drewN n) := by
  induction n with
  | zero => exact h
  | succ n ih => exact ih.drew
/-- Two, three new blocks. -/
theorem rows2 (w : World) (A B : Obj) : ∃ w1, w1 = (w.alloc A).alloc B ∧ w1.heap[w.heap.size]? = some A ∧ w1.heap[w.heap.size + 1]? = some B ∧ Below w.heap.size w w1 ∧ w1.heap.size = w.heap.size + 2 :=
  ⟨_, rfl, heap_alloc2_old w A B, heap_alloc2_new w A B, ((Below.refl _ _).alloc (Nat.le_refl _) _).alloc (by simp) _, by simp⟩
theorem old_block (w : World) (o : Obj) (i : Nat) (h : i < w.heap.size) : (w.alloc o).heap[i]? = w.heap[i]? := by
  show (w.heap.push o)[i]? = w.heap[i]?
  rw [Array.getElem?_push, if_neg (Nat.ne_of_lt h)]
theorem rows3 (w : World) (A B C : Obj) : ∃ w1, w1 = ((w.alloc A).alloc B).alloc C ∧ w1.heap[w.heap.size]? = some A ∧ w1.heap[w.heap.size + 1]? = some B ∧ w1.heap[w.heap.size + 2]? = some C ∧ Below w.heap.size w w1 ∧ w1.heap.size = w.heap.size + 3 := by
  obtain ⟨w1, e, h1, h2, hb, hz⟩ := rows2 w A B
  rw [← e]
  refine ⟨_, rfl, (old_block _ _ _ (by omega)).trans h1, (old_block _ _ _ (by omega)).trans h2, ?_, hb.alloc (by omega) _, by simp [hz]⟩
  have := heap_alloc_new w1 C
  rwa [hz] at this
theorem zeros16 : #[Value.int IntKind.u32 0, Value.int IntKind.u32 0, Value.int IntKind.u32 0, Value.int IntKind.u32 0, Value.int IntKind.u32 0, Value.int IntKind.u32 0, Value.int IntKind.u32 0, Value.int IntKind.u32 0, Value.int IntKind.u32 0, Value.int IntKind.u32 0, Value.int IntKind.u32 0, Value.int IntKind.u32 0, Value.int IntKind.u32 0, Value.int IntKind.u32 0, Value.int IntKind.u32 0, Value.int IntKind.u32 0] = wrow (fun _ => 0) 16 := rfl
theorem byte_or (x : UInt32) (c : Nat) (hc : c < 256) : bits BinOp.or IntKind.u32 ((x.toNat : Int) * 256 % 4294967296) (c : Int) = ((shl x 8 ||| UInt32.ofNat c).toNat : Int) := by
  have e : (c : Int) = ((UInt32.ofNat c).toNat : Int) := by rw [UInt32.toNat_ofNat', Nat.mod_eq_of_lt (by omega)]
  rw [show ((x.toNat : Int) * 256) = (x.toNat : Int) * 2 ^ 8 from rfl, shl_mod, e, u_or]

set_option maxRecDepth 100000 in
set_option maxHeartbeats 400000 in
theorem words_any (B : Nat → Nat) (hB : ∀ i, B i < 256) (w : World) :
    Calls Tryz.prog 96 #[.agg (digA B 64)] w fun e w' => e = .returned (.agg (wrow (word B) 16)) ∧ Below w.heap.size w w' := by
  have HB := Lib.hid hB
  clear hB
  go_enter Tryz.func96, Tryz.ntmps96
  go_upto_region 2 with (fail)
  rw [zeros16]
  obtain ⟨w1, hw1, hgB, hgR, hgW, hb, hsz⟩ := rows3 w (.cells (digA B 64) 104) (.cells (wrow (fun _ => 0) 16) 138) (.cells (wrow (fun _ => 0) 16) 138)
  rw [← hw1]
  clear hw1
  go_wp2_with (refine wpList_load_row rfl 104 _ rfl w.heap.size rfl 104 _ (0, 0) _ hgB Tryz.underlying104 rfl (by rw [digA_size]; exact info64) ?_)
  have HSZ := Lib.hid hsz
  rw [← pw_zero B] at hgR hgW
  clear hsz hgB
  go_loopw [7] (fun i wr => ∃ k : Nat, k ≤ 64 ∧ i = .int .i64 k ∧ wr.heap[w.heap.size + 1]? = some (.cells (wrow (pw B 0) 16) 138) ∧ wr.heap[w.heap.size + 2]? = some (.cells (wrow (pw B k) 16) 138) ∧ Below w.heap.size w wr) (fun i _ => 64 - (intOf i).toNat)
  case atStart => exact ⟨0, by omega, rfl, hgR, hgW, hb⟩
  case round =>
    clear hgR hgW hb
    obtain ⟨k, hk, rfl, hgR, hgW, hb⟩ := hrel
    by_cases hlt : k < 64
    · have hi := fun w => run_index_row w _ _ _ _ Tryz.underlying104 Tryz.underlying5 cellsU8 (digA B 64) k _ hlt (digA_get B 64 k hlt)
      have hd : k / 4 < 16 := by omega
      have hcell : wr.cell? ⟨w.heap.size + 2, k / 4, none⟩ = some (.int .u32 ((pw B k (k / 4)).toNat : Int)) := by
        rw [cell_of_row _ _ _ _ _ _ hgW, wrow_get _ _ _ hd]
      have hfr : wr.frozen? ⟨w.heap.size + 2, k / 4, none⟩ = false := frozen_of_row _ _ _ _ _ hgW
      have hbk := HB.out k
      have eo := byte_or (pw B k (k / 4)) (B k) hbk
      rw [pw_step B HB.out k] at eo
      have hgR' := (heap_setCell_other wr ⟨w.heap.size + 2, k / 4, none⟩ (w.heap.size + 1) (.int .u32 ((pw B (k + 1) (k / 4)).toNat : Int)) (by simp)).trans hgR
      have hgW' := heap_setCell_same wr (w.heap.size + 2) (k / 4) _ _ (.int .u32 ((pw B (k + 1) (k / 4)).toNat : Int)) hgW
      rw [wrow_set (pw B k) (pw B (k + 1)) 16 (k / 4) fun i _ h => (pw_other B k i h).symm] at hgW'
      have hb' := hb.setCell (p := ⟨w.heap.size + 2, k / 4, none⟩) (by simp) (.int .u32 ((pw B (k + 1) (k / 4)).toNat : Int))
      go_wp2
      go_roundw
      case rel => exact ⟨k + 1, by omega, by go_num, hgR', hgW', hb'⟩
      case measure => simp [intOf]; omega
    · obtain rfl : k = 64 := by omega
      have hall := wrow_congr (pw B 64) (word B) 16 (pw_all B)
      rw [hall] at hgW
      clear hall
      go_wp2_with (first | (refine wpList_load_row rfl 138 _ rfl (w.heap.size + 2) rfl 138 _ (0, 0) _ hgW Tryz.underlying138 rfl (by rw [wrow_size]; exact info16w) ?_) | (refine wpList_store_row rfl 138 _ _ rfl (w.heap.size + 1) (wrow (word B) 16) rfl rfl 138 _ hgR (by rw [wrow_size]; exact info16w) (by rw [wrow_size, wrow_size]) (wrow_ok _ _) ?_))
      refine bodyPost_ret (v := .agg (wrow (word B) 16)) (results_cell_row Tryz.results96 _ _ (w.heap.size + 1) 138 _ (0, 0) _ rfl (setRow_heap _ _ _ _ _ _ hgR) Tryz.underlying138 rfl (by rw [wrow_size]; exact info16w)) rfl ?_
      exact ⟨rfl, below_setRow hb (by omega) _⟩
end Go.Proofs.YtbniilajffjfcaaGreatDoor.Sha

/- Plain facts ahead of the contract of Block. -/
namespace Go.Proofs.YtbniilajffjfcaaGreatDoor.Sha
open Go.RowKit

/-- The package's tables, as they are laid. -/
def Tabs (w : World) : Prop := 2 ≤ w.heap.size ∧ (∀ t, t < 64 → w.cell? ⟨1, t, none⟩ = some (.int .u32 ((kW t).toNat : Int))) ∧ (∀ t, t < 8 → w.cell? ⟨0, t, none⟩ = some (.int .u32 ((hW t).toNat : Int)))
theorem Tabs.below {w w' : World} (h : Tabs w) (hb : Below w.heap.size w w') : Tabs w' := by
  obtain ⟨h2, hk, hh⟩ := h
  have hz := hb.size
  exact ⟨by omega, fun t ht => (hb.cell (p := ⟨1, t, none⟩) (by first | (show 0 < _; omega) | (show 1 < _; omega))).trans (hk t ht), fun t ht => (hb.cell (p := ⟨0, t, none⟩) (by first | (show 0 < _; omega) | (show 1 < _; omega))).trans (hh t ht)⟩

/-- Which word stands in the ring ahead of round t. -/
def idx (t j : Nat) : Nat := if t ≤ 16 then j else t - 1 - (t - 1 - j) % 16
def ringAt (B : Nat → Nat) (t j : Nat) : UInt32 := wAt B (idx t j)
theorem zeros8 : #[Value.int IntKind.u32 0, Value.int IntKind.u32 0, Value.int IntKind.u32 0, Value.int IntKind.u32 0, Value.int IntKind.u32 0, Value.int IntKind.u32 0, Value.int IntKind.u32 0, Value.int IntKind.u32 0] = wrow (fun _ => 0) 8 := rfl
theorem row_put (B0 : Nat) (w w2 : World) (A A' : Array Value) (t : TypeId) (hb : Below B0 w w2) (hB : B0 ≤ w2.heap.size) : ∃ w3, w3 = (w2.alloc (.cells A t)).setRow w2.heap.size A' ∧ w3.heap[w2.heap.size]? = some (.cells A' t (0, 0)) ∧ (∀ i, i < w2.heap.size → w3.heap[i]? = w2.heap[i]?) ∧ Below B0 w w3 ∧ w3.heap.size = w2.heap.size + 1 := by
  refine ⟨_, rfl, setRow_heap _ _ _ _ _ _ (heap_alloc_new w2 (.cells A t)), fun i hi => ?_, below_setRow (hb.alloc hB _) hB _, by simp⟩
  rw [setRow_other _ _ _ _ (by omega)]
  exact old_block _ _ _ hi
theorem ring_start (B : Nat → Nat) : wrow (word B) 16 = wrow (ringAt B 0) 16 := wrow_congr _ _ _ fun j hj => (wAt_low B j hj).symm

theorem drawn_facts (wr : World) (r B0 nq n0 n9 : Nat) {W : World} (x0 x9 : Value) (R C Z : Obj) (c0 : wr.cell? ⟨r, n0, none⟩ = some x0) (c9 : wr.cell? ⟨r, n9, none⟩ = some x9) (fr : ∀ j, wr.frozen? ⟨r, j, none⟩ = false) (hgX : wr.heap[r]? = some R) (hgC : wr.heap[B0]? = some C) (hgR : wr.heap[B0 + 2]? = some Z) (hB : Below B0 W wr) :
    ∃ w5, w5 = wr.drewN nq ∧ w5.cell? ⟨r, n0, none⟩ = some x0 ∧ w5.cell? ⟨r, n9, none⟩ = some x9 ∧ (∀ j, w5.frozen? ⟨r, j, none⟩ = false) ∧ w5.heap[r]? = some R ∧ w5.heap[B0]? = some C ∧ w5.heap[B0 + 2]? = some Z ∧ Below B0 W w5 :=
  ⟨_, rfl, c0, c9, fr, hgX, hgC, hgR, below_drewN hB nq⟩

theorem stored_facts (wr : World) (r B0 n0 n9 : Nat) {W : World} (x0 y0 x9 : Value) (R : Array Value) (T : TypeId) (C Z : Obj) (hne : n9 ≠ n0) (c0 : wr.cell? ⟨r, n0, none⟩ = some x0) (c9 : wr.cell? ⟨r, n9, none⟩ = some x9) (_fr : ∀ j, wr.frozen? ⟨r, j, none⟩ = false) (hgX : wr.heap[r]? = some (.cells R T (0, 0))) (hgC : wr.heap[B0]? = some C) (hgR : wr.heap[B0 + 2]? = some Z) (hB : Below B0 W wr) (hr : B0 + 3 ≤ r) :
    ∃ w5, w5 = wr.setCell ⟨r, n0, none⟩ y0 ∧ w5.cell? ⟨r, n0, none⟩ = some y0 ∧ w5.cell? ⟨r, n9, none⟩ = some x9 ∧ (∀ j, w5.frozen? ⟨r, j, none⟩ = false) ∧ w5.heap[r]? = some (.cells (R.setIfInBounds n0 y0) T (0, 0)) ∧ w5.heap[B0]? = some C ∧ w5.heap[B0 + 2]? = some Z ∧ Below B0 W w5 := by
  have hX := heap_setCell_same wr r n0 _ _ y0 hgX
  have hlt : n0 < R.size := by
    rw [cell_of_row _ _ _ _ _ _ hgX] at c0
    exact (Array.getElem?_eq_some_iff.1 c0).1
  refine ⟨_, rfl, ?_, ?_, fun j => frozen_of_row _ _ _ _ _ hX, hX, (heap_setCell_other wr _ _ _ (by show B0 ≠ r; omega)).trans hgC, (heap_setCell_other wr _ _ _ (by show B0 + 2 ≠ r; omega)).trans hgR, hB.setCell (by show B0 ≤ r; omega) _⟩
  · rw [cell_of_row _ _ _ _ _ _ hX]; simp [hlt]
  · rw [cell_of_row _ _ _ _ _ _ hX, Array.getElem?_setIfInBounds, if_neg (fun e => hne e.symm), ← cell_of_row _ _ _ _ _ _ hgX]; exact c9

theorem ring_set (B : Nat → Nat) (t n0 : Nat) (h16 : 16 ≤ t) (hn : n0 = t % 16) (u : Value) (y : UInt32) (hy : y = wAt B t) : ((wrow (ringAt B t) 16).setIfInBounds n0 u).setIfInBounds n0 (.int .u32 (y.toNat : Int)) = wrow (ringAt B (t + 1)) 16 := by
  have e : y = ringAt B (t + 1) n0 := by
    rw [hy, ringAt, show idx (t + 1) n0 = t from by unfold idx; split <;> omega]
  rw [Array.setIfInBounds_setIfInBounds, e]
  exact wrow_set _ _ _ _ fun i hi hne => by
    rw [ringAt, ringAt, show idx (t + 1) i = idx t i from by unfold idx; split <;> split <;> omega]
theorem ring_keep (B : Nat → Nat) (t : Nat) (h16 : t < 16) : wrow (ringAt B (t + 1)) 16 = wrow (ringAt B t) 16 :=
  wrow_congr _ _ _ fun i _ => by rw [ringAt, ringAt, show idx (t + 1) i = idx t i from by unfold idx; split <;> split <;> omega]
theorem ring_low (B : Nat → Nat) (t : Nat) (h16 : t < 16) : ringAt B t t = wAt B t := by
  rw [ringAt, show idx t t = t from by unfold idx; split <;> omega]
theorem word_up (B : Nat → Nat) (q : Nat) (hq : q < 48) {z0 z1 z9 z14 p1 p2 p3 y0 q1 q2 q3 q4 y1 : UInt32} (Z0 : Hid (z0 = wAt B q)) (Z1 : Hid (z1 = wAt B (q + 1))) (Z9 : Hid (z9 = wAt B (q + 9))) (Z14 : Hid (z14 = wAt B (q + 14)))
    (P1 : Hid (p1 = rotr z1 7 ^^^ rotr z1 18)) (P2 : Hid (p2 = shr z1 3)) (P3 : Hid (p3 = p1 ^^^ p2)) (Y0 : Hid (y0 = z0 + p3)) (Q1 : Hid (q1 = rotr z14 17 ^^^ rotr z14 19)) (Q2 : Hid (q2 = shr z14 10)) (Q3 : Hid (q3 = q1 ^^^ q2)) (Q4 : Hid (q4 = z9 + q3)) (Y1 : Hid (y1 = y0 + q4)) : y1 = wAt B (q + 16) := by
  rw [wAt_up B q hq, ← Z0.out, ← Z1.out, ← Z9.out, ← Z14.out, Y1.out, Q4.out, Q3.out, Q2.out, Q1.out, Y0.out, P3.out, P2.out, P1.out, UInt32.add_assoc (z0 + _) z9]
  rfl
theorem raw_x {e g kk y s3 s4 s5 s6 s7 s8 s9 x : UInt32} (S5 : Hid (s5 = ~~~e)) (S6 : Hid (s6 = s5 &&& g)) (S7 : Hid (s7 = s4 ||| s6)) (S8 : Hid (s8 = s3 + s7)) (S9 : Hid (s9 = s8 + kk)) (X : Hid (x = s9 + y)) :
    ((s3.toNat : Int) + bits .or .u32 (s4.toNat : Int) (bits .and .u32 (bits .xor .u32 IntKind.u32.max (e.toNat : Int)) (g.toNat : Int)) + (kk.toNat : Int) + (y.toNat : Int)) % 4294967296 = (x.toNat : Int) := by
  rw [show bits .xor .u32 IntKind.u32.max (e.toNat : Int) = (s5.toNat : Int) from by rw [S5.out]; exact u_not e, u_and, ← S6.out, u_or, ← S7.out, X.out, S9.out, S8.out, UInt32.toNat_add, UInt32.toNat_add, UInt32.toNat_add]
  omega
theorem rnd_of {a b c d e f g h kk y s1 s2 s3 s4 s5 s6 s7 s8 s9 x t1 t2 t3 t4 t5 t6 t7 v dn an : UInt32} (S1 : Hid (s1 = rotr e 6 ^^^ rotr e 11)) (S2 : Hid (s2 = s1 ^^^ rotr e 25)) (S3 : Hid (s3 = h + s2)) (S4 : Hid (s4 = e &&& f)) (S5 : Hid (s5 = ~~~e)) (S6 : Hid (s6 = s5 &&& g)) (S7 : Hid (s7 = s4 ||| s6)) (S8 : Hid (s8 = s3 + s7)) (S9 : Hid (s9 = s8 + kk)) (X : Hid (x = s9 + y))
    (T1 : Hid (t1 = rotr a 2 ^^^ rotr a 13)) (T2 : Hid (t2 = t1 ^^^ rotr a 22)) (T3 : Hid (t3 = a &&& b)) (T4 : Hid (t4 = a &&& c)) (T5 : Hid (t5 = t3 ||| t4)) (T6 : Hid (t6 = b &&& c)) (T7 : Hid (t7 = t5 ||| t6)) (V : Hid (v = t2 + t7)) (D : Hid (dn = d + x)) (A : Hid (an = x + v)) : (⟨an, a, b, c, dn, e, f, g⟩ : St) = rnd kk y ⟨a, b, c, d, e, f, g, h⟩ := by
  have hx : x = tA kk y ⟨a, b, c, d, e, f, g, h⟩ := by
    rw [X.out, S9.out, S8.out, S7.out, S6.out, S5.out, S4.out, S3.out, S2.out, S1.out, ch_or]; rfl
  have hv : v = tB ⟨a, b, c, d, e, f, g, h⟩ := by
    rw [V.out, T7.out, T6.out, T5.out, T4.out, T3.out, T2.out, T1.out, maj_or]; rfl
  rw [A.out, D.out, hx, hv]
  rfl
/-- The chain while its words are put together. -/
def mixTo (c : Nat → UInt32) (s : St) (k i : Nat) : UInt32 := if i < k then s.at i + c i else c i
theorem mix_zero (c : Nat → UInt32) (s : St) : mixTo c s 0 = c := by funext i; simp [mixTo]
theorem mix_all (c : Nat → UInt32) (B : Nat → Nat) (s : St) (h : s = rounds (wAt B) (stOf c) 64) : wrow (mixTo c s 8) 8 = wrow (block c B) 8 :=
  wrow_congr _ _ _ fun i hi => by rw [mixTo, if_pos hi, block, h]
theorem mix_set (c : Nat → UInt32) (s : St) (k : Nat) (y : UInt32) (hy : y = c k + s.at k) : (wrow (mixTo c s k) 8).setIfInBounds k (.int .u32 (y.toNat : Int)) = wrow (mixTo c s (k + 1)) 8 := by
  have e : y = mixTo c s (k + 1) k := by rw [mixTo, if_pos (by omega), hy, UInt32.add_comm]
  rw [e]
  exact wrow_set _ _ _ _ fun i _ hne => by unfold mixTo; split <;> split <;> first | rfl | omega
theorem mix_get (c : Nat → UInt32) (s : St) (k : Nat) (hk : k < 8) : (wrow (mixTo c s k) 8)[k]? = some (.int .u32 ((c k).toNat : Int)) := by
  rw [wrow_get _ _ _ hk, mixTo, if_neg (by omega)]
theorem st_row (a b c d e f g h : UInt32) : #[Value.int .u32 (a.toNat : Int), .int .u32 (b.toNat : Int), .int .u32 (c.toNat : Int), .int .u32 (d.toNat : Int), .int .u32 (e.toNat : Int), .int .u32 (f.toNat : Int), .int .u32 (g.toNat : Int), .int .u32 (h.toNat : Int)] = wrow (St.at ⟨a, b, c, d, e, f, g, h⟩) 8 := rfl
end Go.Proofs.YtbniilajffjfcaaGreatDoor.Sha
