/- Plain facts: registers of 32 bits, and the bits that go into them. -/
import Derived.WalkKit
import Derived.Laws.BitsAllLaws
import Derived.Lib.Hide
namespace Go.Proofs.Ytdmikdpajijahaa
open Go.RowKit

theorem ret_bool {a b : Bool} (h : a = b) : Ending.returned (.bool a) = .returned (.bool b) := by rw [h]
theorem ret_int {k : IntKind} {a b : Int} (h : a = b) : Ending.returned (.int k a) = .returned (.int k b) := by rw [h]
theorem val_int {k : IntKind} {a b : Int} (h : a = b) : Value.int k a = Value.int k b := by rw [h]

abbrev Reg := BitVec 32
theorem r_lt (a : Reg) : a.toNat < 4294967296 := a.isLt
theorem r_xor (a b : Reg) : bits .xor .u32 (a.toNat : Int) (b.toNat : Int) = ((a ^^^ b).toNat : Int) := by
  rw [u32_xor_nat _ _ (r_lt a) (r_lt b), BitVec.toNat_xor]
theorem r_and (a b : Reg) : bits .and .u32 (a.toNat : Int) (b.toNat : Int) = ((a &&& b).toNat : Int) := by
  rw [u32_and_nat _ _ (r_lt a) (r_lt b), BitVec.toNat_and]
theorem r_not (a : Reg) : bits .xor .u32 4294967295 (a.toNat : Int) = ((~~~a).toNat : Int) := by
  have h : (4294967295 : Int) = ((BitVec.allOnes 32).toNat : Int) := by decide
  rw [h, r_xor]
  congr 2

def poly : Reg := 3988292384#32
def lsb (r : Reg) : Bool := r.getLsbD 0
def mask (b : Bool) : Reg := if b then poly else 0#32
def bit1 (r : Reg) : Reg := (r >>> 1) ^^^ mask (lsb r)
def iter1 : Nat → Reg → Reg
  | 0, r => r
  | n + 1, r => bit1 (iter1 n r)
def bitOf (b : Bool) : Reg := if b then 1#32 else 0#32
/-- A row of bits goes into a register. -/
def regAt (f : Nat → Bool) : Nat → Reg → Reg
  | 0, r => r
  | n + 1, r => bit1 (regAt f n r ^^^ bitOf (f n))
def step (r : Reg) (c : Nat) : Reg := regAt (fun i => c.testBit i) 8 r

theorem lsb_xor (a b : Reg) : lsb (a ^^^ b) = (lsb a ^^ lsb b) := by simp [lsb]
theorem mask_xor (a b : Bool) : mask (a ^^ b) = mask a ^^^ mask b := by
  cases a <;> cases b <;> decide
theorem bit1_xor (a b : Reg) : bit1 (a ^^^ b) = bit1 a ^^^ bit1 b := by
  rw [bit1, bit1, bit1, lsb_xor, mask_xor, BitVec.ushiftRight_xor_distrib]
  ac_rfl
theorem bitOf_xor (a b : Bool) : bitOf (a ^^ b) = bitOf a ^^^ bitOf b := by
  cases a <;> cases b <;> decide
theorem regAt_xor (f g : Nat → Bool) (n : Nat) (r s : Reg) : regAt (fun i => f i ^^ g i) n (r ^^^ s) = regAt f n r ^^^ regAt g n s := by
  induction n with
  | zero => rfl
  | succ n ih =>
    rw [regAt, regAt, regAt, ih, bitOf_xor, ← bit1_xor]
    congr 1
    ac_rfl
theorem bit1_top (r : Reg) : (bit1 r).getLsbD 31 = lsb r := by
  rw [bit1, BitVec.getLsbD_xor, BitVec.getLsbD_ushiftRight]
  have h1 : r.getLsbD (1 + 31) = false := BitVec.getLsbD_of_ge r 32 (by decide)
  rw [h1, mask]
  cases lsb r <;> decide
theorem bit1_inj (a b : Reg) (h : bit1 a = bit1 b) : a = b := by
  have hl : lsb a = lsb b := by rw [← bit1_top, ← bit1_top, h]
  rw [bit1, bit1, hl] at h
  have hs : a >>> 1 = b >>> 1 := by
    have := congrArg (· ^^^ mask (lsb b)) h
    simpa [BitVec.xor_assoc] using this
  apply BitVec.eq_of_getLsbD_eq
  intro i _
  match i with
  | 0 => exact hl
  | j + 1 =>
    have := congrArg (·.getLsbD j) hs
    simpa [BitVec.getLsbD_ushiftRight, Nat.add_comm] using this
theorem bit1_zero : bit1 0#32 = 0#32 := by decide
theorem iter1_inj (n : Nat) (a b : Reg) (h : iter1 n a = iter1 n b) : a = b := by
  induction n with
  | zero => exact h
  | succ n ih => exact ih (bit1_inj _ _ h)
theorem iter1_zero (n : Nat) : iter1 n 0#32 = 0#32 := by
  induction n with
  | zero => rfl
  | succ n ih => rw [iter1, ih, bit1_zero]
theorem regAt_inj (f : Nat → Bool) (n : Nat) (a b : Reg) (h : regAt f n a = regAt f n b) : a = b := by
  induction n with
  | zero => exact h
  | succ n ih =>
    have := bit1_inj _ _ h
    have := congrArg (· ^^^ bitOf (f n)) this
    exact ih (by simpa [BitVec.xor_assoc] using this)

theorem byte_bit : ∀ c : Fin 256, ∀ k : Fin 8, bit1 (BitVec.ofNat 32 (c.val >>> k.val) ^^^ bitOf (c.val.testBit k.val)) = BitVec.ofNat 32 (c.val >>> (k.val + 1)) := by decide +kernel
theorem step_iter_inv (r : Reg) (c k : Nat) (hc : c < 256) (hk : k ≤ 8) : regAt (fun i => c.testBit i) k r ^^^ BitVec.ofNat 32 (c >>> k) = iter1 k (r ^^^ BitVec.ofNat 32 c) := by
  induction k with
  | zero => rfl
  | succ k ih =>
    rw [iter1, ← ih (by omega), regAt, ← byte_bit ⟨c, hc⟩ ⟨k, by omega⟩, ← bit1_xor]
    congr 1
    simp only [BitVec.xor_assoc]
    congr 1
    rw [BitVec.xor_comm (bitOf _), BitVec.xor_assoc, BitVec.xor_self, BitVec.xor_zero]
theorem step_iter (r : Reg) (c : Nat) (hc : c < 256) : iter1 8 (r ^^^ BitVec.ofNat 32 c) = step r c := by
  rw [← step_iter_inv r c 8 hc (by omega), Nat.shiftRight_eq_div_pow, Nat.div_eq_of_lt (by omega)]
  simp [step]
theorem step_xor (r s : Reg) (c d : Nat) : step (r ^^^ s) (c ^^^ d) = step r c ^^^ step s d := by
  unfold step
  rw [← regAt_xor]
  congr 1
  funext i
  exact Nat.testBit_xor ..
theorem step_inj (r s : Reg) (c : Nat) (h : step r c = step s c) : r = s := regAt_inj _ _ _ _ h
theorem ofNat_inj (c d : Nat) (hc : c < 256) (hd : d < 256) (h : BitVec.ofNat 32 c = BitVec.ofNat 32 d) : c = d := by
  have := congrArg BitVec.toNat h
  simp only [BitVec.toNat_ofNat] at this
  omega
theorem step_inj_byte (r : Reg) (c d : Nat) (hc : c < 256) (hd : d < 256) (h : step r c = step r d) : c = d := by
  rw [← step_iter r c hc, ← step_iter r d hd] at h
  have h2 := iter1_inj _ _ _ h
  have h3 := congrArg (r ^^^ ·) h2
  simp only [← BitVec.xor_assoc, BitVec.xor_self, BitVec.zero_xor] at h3
  exact ofNat_inj c d hc hd h3

/-- A byte's bit, as the reference takes it. -/
theorem ref_bit (r : Reg) (c k : Nat) (hc : c < 256) : (r >>> 1) ^^^ mask (lsb (r ^^^ BitVec.ofNat 32 (c >>> k))) = bit1 (r ^^^ bitOf (c.testBit k)) := by
  have h : c >>> k < 4294967296 := by
    have : c >>> k ≤ c := by rw [Nat.shiftRight_eq_div_pow]; exact Nat.div_le_self _ _
    omega
  have h1 : lsb (BitVec.ofNat 32 (c >>> k)) = c.testBit k := by
    rw [lsb, BitVec.getLsbD_ofNat, Nat.testBit_shiftRight, Nat.add_zero]
    simp
  have h2 : lsb (bitOf (c.testBit k)) = c.testBit k := by cases c.testBit k <;> decide
  rw [bit1, lsb_xor, lsb_xor, h1, h2, BitVec.ushiftRight_xor_distrib]
  have h3 : bitOf (c.testBit k) >>> 1 = 0#32 := by cases c.testBit k <;> decide
  rw [h3, BitVec.xor_zero]

/-- The bytes of a row go into a register. -/
def runs (d : Nat → Nat) : Nat → Reg → Reg
  | 0, r => r
  | n + 1, r => step (runs d n r) (d n)
def sumR (d : Nat → Nat) (n : Nat) : Reg := ~~~(runs d n (BitVec.allOnes 32))
theorem runs_congr (d e : Nat → Nat) (n : Nat) (r : Reg) (h : ∀ i, i < n → d i = e i) : runs d n r = runs e n r := by
  induction n with
  | zero => rfl
  | succ n ih => rw [runs, runs, ih (fun i hi => h i (by omega)), h n (by omega)]
theorem runs_add (d : Nat → Nat) (n m : Nat) (r : Reg) : runs d (n + m) r = runs (fun i => d (n + i)) m (runs d n r) := by
  induction m with
  | zero => rfl
  | succ m ih => rw [← Nat.add_assoc, runs, runs, ih]
end Go.Proofs.Ytdmikdpajijahaa
