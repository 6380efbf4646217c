/- Plain facts on bytes as numbers, and on letters of five bits. -/
import Derived.WalkKit
import Derived.Laws.BitsAllLaws
import Derived.Lib.RabinKarpLaws
import Derived.Test.YtadlimfpcfdgcaaNmA
import Derived.IntWalk
import Derived.OwnWalk
import Derived.WalkSmall
import Derived.Laws.IdiomStrings
import Derived.Test.YtadlimfpcfdgcaaShelf
import Derived.Lib.IndexLaws
set_option linter.unusedVariables false
set_option linter.unusedSimpArgs false
namespace Go.Proofs.Ytadlimfpcfdgcaa.Nam
open Go.RowKit

/-- The number of the first k bytes. -/
def num (d : Nat → Nat) : Nat → Nat
  | 0 => 0
  | k + 1 => num d k * 256 + d k

theorem num_div (d : Nat → Nat) (hd : ∀ i, d i < 256) (k m : Nat) : num d (k + m) / 256 ^ m = num d k := by
  induction m with
  | zero => simp
  | succ m ih =>
    rw [Nat.pow_succ, Nat.mul_comm, ← Nat.div_div_eq_div_mul]
    have : num d (k + (m + 1)) / 256 = num d (k + m) := by
      show (num d (k + m) * 256 + d (k + m)) / 256 = _
      have := hd (k + m)
      omega
    rw [this, ih]
theorem num_pre (d : Nat → Nat) (hd : ∀ i, d i < 256) (k : Nat) (hk : k ≤ 20) : num d k = num d 20 / 2 ^ (8 * (20 - k)) := by
  have := num_div d hd k (20 - k)
  rw [show k + (20 - k) = 20 from by omega] at this
  rw [← this, Nat.pow_mul]
theorem num_lt (d : Nat → Nat) (hd : ∀ i, d i < 256) (k : Nat) : num d k < 256 ^ k := by
  induction k with
  | zero => simp [num]
  | succ k ih =>
    show num d k * 256 + d k < 256 ^ (k + 1)
    have := hd k
    rw [Nat.pow_succ]
    omega
theorem num_mod (d : Nat → Nat) (hd : ∀ i, d i < 256) (k : Nat) : num d (k + 1) % 256 = d k := by
  show (num d k * 256 + d k) % 256 = d k
  have := hd k
  omega

theorem mod64_div (a n : Nat) (hn : n ≤ 59) : a % 18446744073709551616 / 2 ^ n % 32 = a / 2 ^ n % 32 := by
  rw [show (18446744073709551616 : Nat) = 2 ^ n * 2 ^ (64 - n) from by rw [← Nat.pow_add, show n + (64 - n) = 64 from by omega], Nat.mod_mul_right_div_self]
  exact Nat.mod_mod_of_dvd _ ⟨2 ^ (59 - n), by rw [show (32 : Nat) = 2 ^ 5 from rfl, ← Nat.pow_add]; congr 1; omega⟩

/-- The letters' values. -/
def letNo (M j : Nat) : Nat := M / 2 ^ (155 - 5 * j) % 32
theorem letNo_lt (M j : Nat) : letNo M j < 32 := Nat.mod_lt _ (by decide)

/-- The letter that the first k bytes tell when n bits are left. -/
theorem let_of (d : Nat → Nat) (hd : ∀ i, d i < 256) (k j n : Nat) (hk : k ≤ 20) (hn : n + 5 * (j + 1) = 8 * k) (hn' : n ≤ 59) : num d k % 18446744073709551616 / 2 ^ n % 32 = letNo (num d 20) j := by
  rw [mod64_div _ _ hn', num_pre d hd k hk, Nat.div_div_eq_div_mul, ← Nat.pow_add, letNo, show 8 * (20 - k) + n = 155 - 5 * j from by omega]

/-- The n-th bit. -/
def bitNo (M n : Nat) : Nat := M / 2 ^ (159 - n) % 2
theorem bit_of (d : Nat → Nat) (hd : ∀ i, d i < 256) (n : Nat) (hn : n < 160) : d (n / 8) / 2 ^ (7 - n % 8) % 2 = bitNo (num d 20) n := by
  have h := num_mod d hd (n / 8)
  rw [num_pre d hd (n / 8 + 1) (by omega)] at h
  rw [← h, bitNo, show 159 - n = 8 * (20 - (n / 8 + 1)) + (7 - n % 8) from by omega, Nat.pow_add, ← Nat.div_div_eq_div_mul]
  generalize num d 20 / 2 ^ (8 * (20 - (n / 8 + 1))) = y
  generalize hr : 7 - n % 8 = r
  have hr7 : r ≤ 7 := by omega
  rw [show (256 : Nat) = 2 ^ r * 2 ^ (8 - r) from by rw [← Nat.pow_add, show r + (8 - r) = 8 from by omega], Nat.mod_mul_right_div_self]
  exact Nat.mod_mod_of_dvd _ ⟨2 ^ (7 - r), by rw [← Nat.pow_succ']; congr 1; omega⟩
theorem bits_step (M a k : Nat) : M / 2 ^ a % 2 ^ (k + 1) = 2 * (M / 2 ^ (a + 1) % 2 ^ k) + M / 2 ^ a % 2 := by
  rw [Nat.pow_succ 2 a, ← Nat.div_div_eq_div_mul]
  generalize M / 2 ^ a = y
  rw [Nat.pow_succ, Nat.mul_comm (2 ^ k) 2, Nat.mod_mul]
  omega
/-- What k bits of the i-th letter are worth. -/
def preNo (M i k : Nat) : Nat := M / 2 ^ (160 - 5 * i - k) % 2 ^ k
theorem preNo_zero (M i : Nat) : preNo M i 0 = 0 := by simp [preNo, Nat.mod_one]
theorem preNo_succ (M i k : Nat) (hi : i < 32) (hk : k < 5) : preNo M i (k + 1) = 2 * preNo M i k + bitNo M (5 * i + k) := by
  have h := bits_step M (160 - 5 * i - (k + 1)) k
  rw [preNo, h, preNo, bitNo, show 160 - 5 * i - (k + 1) + 1 = 160 - 5 * i - k from by omega, show 159 - (5 * i + k) = 160 - 5 * i - (k + 1) from by omega]
theorem preNo_five (M i : Nat) (_hi : i < 32) : preNo M i 5 = letNo M i := by
  rw [preNo, letNo, show 160 - 5 * i - 5 = 155 - 5 * i from by omega]
theorem preNo_lt (M i k : Nat) (hk : k ≤ 5) : preNo M i k < 32 := by
  have h : preNo M i k < 2 ^ k := Nat.mod_lt _ (Nat.two_pow_pos k)
  have : 2 ^ k ≤ 2 ^ 5 := Nat.pow_le_pow_right (by decide) hk
  omega

def abc : List UInt8 := [48, 49, 50, 51, 52, 53, 54, 55, 56, 57, 97, 98, 99, 100, 102, 103, 104, 105, 106, 107, 108, 109, 110, 112, 113, 114, 115, 118, 119, 120, 121, 122]
/-- The letters of the number of 20 bytes. -/
def letters (M n : Nat) : List UInt8 := (List.range n).map fun j => abc.getD (letNo M j) 0
theorem letters_succ (M n : Nat) : letters M (n + 1) = letters M n ++ [abc.getD (letNo M n) 0] := by
  simp [letters, List.range_succ]
theorem letters_len (M n : Nat) : (letters M n).length = n := by simp [letters]

/-- An array of bytes. -/
def cells (d : Nat → Nat) (n : Nat) : List Value := (List.range n).map fun i => Value.int .u8 (d i : Int)
def digA (d : Nat → Nat) (n : Nat) : Array Value := (cells d n).toArray
theorem digA_size (d : Nat → Nat) (n : Nat) : (digA d n).size = n := by simp [digA, cells]
theorem digA_get (d : Nat → Nat) (n i : Nat) (h : i < n) : (digA d n)[i]? = some (.int .u8 (d i : Int)) := by
  simp [digA, cells, h]
theorem and_one_i64 (y : Int) (h0 : 0 ≤ y) (h1 : y < 256) : bits BinOp.and IntKind.i64 (wrap64 y) 1 = ((y.toNat % 2 : Nat) : Int) := by
  obtain ⟨n, rfl⟩ := Int.eq_ofNat_of_zero_le h0
  have : wrap64 (n : Int) = n := by unfold wrap64; omega
  rw [this]
  exact and_one n (by omega)
theorem cast_div (x r : Nat) : (x : Int) / 2 ^ r = ((x / 2 ^ r : Nat) : Int) := by push_cast; rfl
end Go.Proofs.Ytadlimfpcfdgcaa.Nam

/- Contracts of the reference's bit, Of20 and Letters. -/
namespace Go.Proofs.Ytadlimfpcfdgcaa.Nam
open Go.RowKit

theorem i64_id (n : Int) (h0 : -9223372036854775808 ≤ n) (h1 : n ≤ 9223372036854775807) : wrap64 n = n := by unfold wrap64; omega

/-- A slice over a block of 20 bytes. -/
def Has20 (w : World) (b : Nat) (d : Nat → Nat) : Prop := ∀ i, i < 20 → w.cell? ⟨b, i, none⟩ = some (.int .u8 (d i : Int))

def strOf (l : List UInt8) : ByteArray := ⟨l.toArray⟩
theorem strOf_size (l : List UInt8) : (strOf l).size = l.length := by simp [strOf, ByteArray.size]
theorem str_ext {a b : ByteArray} (h : a.data.toList = b.data.toList) : a = b := by
  cases a; cases b; simp at h; rw [h]
theorem abc_at (l : List UInt8) (v : Nat) (h : v < 32) : (strOf l ++ ByteArray.extract ⟨#[48, 49, 50, 51, 52, 53, 54, 55, 56, 57, 97, 98, 99, 100, 102, 103, 104, 105, 106, 107, 108, 109, 110, 112, 113, 114, 115, 118, 119, 120, 121, 122]⟩ v (v + 1)) = strOf (l ++ [abc.getD v 0]) := by
  have e : ∀ v : Fin 32, (ByteArray.extract ⟨#[48, 49, 50, 51, 52, 53, 54, 55, 56, 57, 97, 98, 99, 100, 102, 103, 104, 105, 106, 107, 108, 109, 110, 112, 113, 114, 115, 118, 119, 120, 121, 122]⟩ v.val (v.val + 1)).data.toList = [abc.getD v.val 0] := by decide +kernel
  apply str_ext
  rw [ByteArray.data_append, Array.toList_append, e ⟨v, h⟩]
  simp [strOf]

end Go.Proofs.Ytadlimfpcfdgcaa.Nam

/- Contracts of the reference's Letters. -/
namespace Go.Proofs.Ytadlimfpcfdgcaa.Nam
open Go.RowKit

theorem infoU8 : (Try.prog.info? 5).map (fun i => (i.zero, i.size, i.bytes)) = some (some (.int .u8 0), 1, 1) := by kernel_rfl
theorem cells_succ (d : Nat → Nat) (k : Nat) : cells d (k + 1) = cells d k ++ [Value.int .u8 (d k : Int)] := by simp [cells, List.range_succ]
theorem cells_len (d : Nat → Nat) (k : Nat) : (cells d k).length = k := by simp [cells]
theorem cells_get (d : Nat → Nat) (n i : Nat) (h : i < n) : (cells d n)[i]? = some (.int .u8 (d i : Int)) := by simp [cells, h]

theorem own_has {wr : World} {base : Nat} {E : TypeId} {v : Value} {d : Nat → Nat} (hown : wr.ownsRow base E 1 v 20 (cells d 20)) :
    ∃ g cap, v = .slice (some ⟨g, 0, none⟩) 20 cap ∧ Has20 wr g d ∧ base ≤ g := by
  obtain ⟨hl, ⟨rfl, h0⟩ | ⟨g, cap, cur, rfl, hg, hgg, hn, hcm, hcs, htk⟩⟩ := hown
  · omega
  · refine ⟨g, cap, rfl, fun i hi => ?_, hg⟩
    have h1 : wr.cell? ⟨g, i, none⟩ = cur[i]? := by simp [World.cell?, hgg]
    have := cells_get d 20 i hi
    rw [← htk, List.getElem?_take_of_lt (by omega)] at this
    rw [h1]
    simpa using this

end Go.Proofs.Ytadlimfpcfdgcaa.Nam

/- Contracts of naming's Letters. -/
namespace Go.Proofs.Ytadlimfpcfdgcaa.Nam
open Go.RowKit

def letC (M j : Nat) : List Value := (letters M j).map fun c => Value.int .u8 (c.toNat : Int)
def mod64 (a : Nat) : Nat := a % 18446744073709551616

theorem mod64_lt (a : Nat) : mod64 a < 18446744073709551616 := Nat.mod_lt _ (by decide)
theorem wrap_u64_nat (n : Nat) : IntKind.u64.wrap (n : Int) = (mod64 n : Int) := by rw [IntKind.wrap_u64]; unfold mod64; omega
theorem or_byte (a c : Nat) (hc : c < 256) : bits BinOp.or IntKind.u64 (IntKind.u64.wrap ((mod64 a : Int) * 256)) (IntKind.u64.wrap (c : Int)) = (mod64 (a * 256 + c) : Int) := by
  have e1 : ((mod64 a : Int) * 256) = ((mod64 a * 256 : Nat) : Int) := by omega
  have h1 : mod64 c = c := by unfold mod64; omega
  have h2 : mod64 (mod64 a * 256) % 2 ^ 8 = 0 := by unfold mod64; omega
  rw [e1, wrap_u64_nat, wrap_u64_nat, h1, u64_or_nat _ _ (mod64_lt _) (by omega), nat_join 8 _ _ h2 (by omega)]
  unfold mod64
  omega
theorem and31 (y : Nat) (h : y < 18446744073709551616) : bits BinOp.and IntKind.u64 (y : Int) 31 = ((y % 32 : Nat) : Int) := by
  rw [show (31 : Int) = ((31 : Nat) : Int) from rfl, u64_and_nat _ _ h (by omega), nat_mask5]

theorem abc_idx (x : Nat) (h : x < (ByteArray.mk #[48, 49, 50, 51, 52, 53, 54, 55, 56, 57, 97, 98, 99, 100, 102, 103, 104, 105, 106, 107, 108, 109, 110, 112, 113, 114, 115, 118, 119, 120, 121, 122]).size) : ((ByteArray.mk #[48, 49, 50, 51, 52, 53, 54, 55, 56, 57, 97, 98, 99, 100, 102, 103, 104, 105, 106, 107, 108, 109, 110, 112, 113, 114, 115, 118, 119, 120, 121, 122])[x]).toNat = (abc.getD x 0).toNat := by
  have e : ∀ v : Fin 32, ((ByteArray.mk #[48, 49, 50, 51, 52, 53, 54, 55, 56, 57, 97, 98, 99, 100, 102, 103, 104, 105, 106, 107, 108, 109, 110, 112, 113, 114, 115, 118, 119, 120, 121, 122])[v.val]'(v.isLt)).toNat = (abc.getD v.val 0).toNat := by decide +kernel
  exact e ⟨x, h⟩
theorem letC_succ (M j : Nat) : letC M (j + 1) = letC M j ++ [Value.int .u8 ((abc.getD (letNo M j) 0).toNat : Int)] := by simp [letC, letters_succ]
theorem idx_of (d : Nat → Nat) (hd : ∀ i, d i < 256) (k j q : Nat) (hk : k < 20) (h : q + 5 + 5 * j = 8 * (k + 1)) (hq : q < 13) : bits BinOp.and IntKind.u64 ((mod64 (num d (k + 1)) : Int) / 2 ^ q) 31 = (letNo (num d 20) j : Int) := by
  rw [cast_div, and31 _ (Nat.lt_of_le_of_lt (Nat.div_le_self _ _) (mod64_lt _))]
  exact congrArg Int.ofNat (let_of d hd (k + 1) j q (by omega) (by omega) (by omega))

theorem convert_own {P : Program} {wr : World} {base : Nat} {E src dst : TypeId} {v : Value} {l : List UInt8} (hown : wr.ownsRow base E 1 v l.length (l.map fun c => Value.int .u8 (c.toNat : Int)))
    (hs : P.underlying src = some (.slice E)) (he : P.underlying E = some (.int .u8)) (hd : P.underlying dst = some .string) :
    (convert src dst v).run P wr = .ok (.string (strOf l)) wr := by
  obtain ⟨hl, ⟨rfl, h0⟩ | ⟨g, cap, cur, rfl, hg, hgg, hn, hcm, hcs, htk⟩⟩ := hown
  · have : l = [] := List.eq_nil_of_length_eq_zero h0
    subst this
    rw [run_convert_bytes_string wr src dst E none 0 0 hs he hd]
    simp [Conv.bytesToString, strOf]
    rfl
  · refine run_convert_bytes_back wr src dst E ⟨g, 0, none⟩ cap l hs he hd fun j hj => ?_
    have h1 : wr.cell? ((⟨g, 0, none⟩ : Addr).add j) = cur[j]? := by
      unfold Addr.add
      split
      · rename_i h; subst h; simp [World.cell?, hgg]
      · simp [World.cell?, hgg]
    have : (l.map fun c => Value.int .u8 (c.toNat : Int))[j]? = some (.int .u8 (l[j].toNat : Int)) := by simp [List.getElem?_eq_getElem hj]
    rw [← htk, List.getElem?_take_of_lt (by omega)] at this
    rw [h1]
    simpa using this

set_option maxRecDepth 100000 in
set_option maxHeartbeats 400000 in
theorem letters_any (d : Nat → Nat) (hd : ∀ i, d i < 256) (w : World) :
    Calls Try.prog 10 #[.agg (digA d 32)] w fun e w' => e = .returned (.string (strOf (letters (num d 20) 32))) ∧ Below w.heap.size w w' := by
  have HD := Lib.hid hd
  clear hd
  obtain ⟨i0, hi, hz0, hz1, hz2⟩ := info_parts infoU8
  go_enter Try.func10, Try.ntmps10
  go_wp2_with (at_make; refine wpList_make_own _ rfl _ _ 22 rfl (w.heap.size + 1) 5 i0 (.int .u8 0) 1 Try.underlying22 hi hz0 hz1 .i64 .i64 _ 32 rfl rfl rfl ?m1 ?m2 ?m3 ?_)
  case m1 => omega
  case m2 => unfold maxLen; omega
  case m3 => simp
  intro w1 hown hg
  have hb := (Below.refl (w.heap.size + 1) (w.alloc (.cells (digA d 32) 29))).grown hg (by simp) (fun _ h => by cases h)
  clear hg
  go_wp2
  go_loopw [3, 4, 5, 11] (fun v b n i wr => ∃ k j m : Nat, k ≤ 20 ∧ j ≤ 32 ∧ m < 5 ∧ m + 5 * j = 8 * k ∧ i = .int .i64 k ∧ n = .int .i64 m ∧ b = .int .u64 (mod64 (num d k) : Int) ∧ wr.ownsRow (w.heap.size + 1) 5 1 v j (letC (num d 20) j) ∧ Below (w.heap.size + 1) (w.alloc (.cells (digA d 32) 29)) wr) (fun _ _ _ i _ => 20 - (intOf i).toNat)
  case atStart => exact ⟨0, 0, 0, by omega, by omega, by omega, by omega, rfl, rfl, rfl, hown, hb⟩
  case round =>
    obtain ⟨k, j, m, hk, hj, hm, hmj, rfl, rfl, rfl, hown, hb⟩ := hrel
    have hsz := hb.size
    simp only [World.size_alloc] at hsz
    by_cases hlt : k < 20
    · have hcell : wr.cell? ⟨w.heap.size, k, none⟩ = some (.int .u8 (d k : Int)) := by
        rw [hb.cell (p := ⟨w.heap.size, k, none⟩) (by simp), World.cell?_alloc_at _ _ _ _ rfl]
        exact digA_get d 32 k (by omega)
      have hdk : decide ((k : Int) < 20) = true := by simp; omega
      have HM := Lib.hid hmj
      clear hmj
      have eb := or_byte (num d k) (d k) (HD.out k)
      rw [show num d k * 256 + d k = num d (k + 1) from rfl] at eb
      go_wp2
      go_loopw [3, 5] (fun v n wr => ∃ j m : Nat, j ≤ 32 ∧ m < 13 ∧ Hid (m + 5 * j = 8 * (k + 1)) ∧ n = .int .i64 m ∧ wr.ownsRow (w.heap.size + 1) 5 1 v j (letC (num d 20) j) ∧ Below (w.heap.size + 1) (w.alloc (.cells (digA d 32) 29)) wr) (fun _ n _ => (intOf n).toNat)
      case atStart => exact ⟨j, m + 8, by omega, by omega, Lib.hid (by have := HM.out; omega), by go_num, hown, hb⟩
      case round =>
        clear hown hb hcell eb
        obtain ⟨j, m, hj, hm, HM, rfl, hown, hb⟩ := hrel
        by_cases hm5 : 5 ≤ m
        · obtain ⟨q, rfl⟩ : ∃ q, m = q + 5 := ⟨m - 5, by omega⟩
          have eI := idx_of d HD.out k j q hlt (by have := HM.out; omega) (by omega)
          have hx := letNo_lt (num d 20) j
          have HS := Lib.hid (letC_succ (num d 20) j)
          have hj32 : j < 32 := by have := HM.out; omega
          generalize letNo (num d 20) j = x at *
          go_wp2_with (at_builtin; refine wpList_append_own _ rfl _ _ 22 rfl (w.heap.size + 1) 5 i0 (.int .u8 0) 1 1 Try.underlying22 hi hz0 hz1 hz2 rfl (by decide) _ _ _ rfl (hown.alloc _) ⟨wr.heap.size, 0, none⟩ 1 1 [.int .u8 ((ByteArray.mk #[48, 49, 50, 51, 52, 53, 54, 55, 56, 57, 97, 98, 99, 100, 102, 103, 104, 105, 106, 107, 108, 109, 110, 112, 113, 114, 115, 118, 119, 120, 121, 122])[x].toNat : Int)] rfl rfl ?c1 ?c2 ?c3 ?c4 ?c5 ?_)
          case c1 =>
            intro j u hj
            match j, hj with
            | 0, hj => simp at hj; subst hj; simp [Addr.add]
          case c2 => intro u hu; simp at hu; subst hu; rfl
          case c3 => unfold maxLen; omega
          case c4 => omega
          case c5 => have := hb.size; simp at this; simp; omega
          intro v' w1 hown' hgrow _
          rw [abc_idx, ← HS.out] at hown'
          have hb' := ((hb.alloc (by have := hb.size; simp at this; omega) _).grown hgrow (by have := hb.size; simp at this; simp; omega) (fun g hg => (hown.lt g hg).1))
          clear hown hb hgrow eI
          go_wp2
          go_roundw
          case rel =>
            exact ⟨j + 1, q, by omega, by omega, Lib.hid (by have := HM.out; omega), by go_num, hown', hb'⟩
          case measure => simp [intOf]; omega
        · go_wp2
          go_roundw
          case rel => exact ⟨k + 1, j, m, by omega, by omega, by omega, HM.out, by go_num, rfl, rfl, hown, hb⟩
          case measure => simp [intOf]; omega
    · obtain rfl : k = 20 := by omega
      obtain rfl : j = 32 := by omega
      have hcv := convert_own (P := Try.prog) (src := 22) (dst := 9) (l := letters (num d 20) 32) (by rw [letters_len]; exact hown) Try.underlying22 Try.underlying5 Try.underlying9
      clear hmj
      go_wp2
      go_ret
      exact ⟨rfl, (((Below.refl _ _).alloc (Nat.le_refl _) _).trans (hb.mono (by omega)))⟩
end Go.Proofs.Ytadlimfpcfdgcaa.Nam

/- Contracts of the reference's value, and plain facts on letters' values. -/
namespace Go.Proofs.Ytadlimfpcfdgcaa.Nam
open Go.RowKit

theorem indexByte_of_at {l : List UInt8} {c : UInt8} {k : Nat} (hn : ∀ j, j < k → l[j]? ≠ some c) (hk : l[k]? = some c) : Lib.indexByte l c = (k : Int) := by
  rcases Int.eq_ofNat_of_zero_le (show 0 ≤ Lib.indexByte l c + 1 by have := Lib.indexByte_ge l c; omega) with ⟨n, hn'⟩
  cases n with
  | zero => exact absurd hk (Lib.indexByte_none (by omega) k)
  | succ n =>
    have ho : Lib.indexByte l c = (n : Int) := by omega
    obtain ⟨h1, h2⟩ := Lib.indexByte_some ho
    have : n = k := by
      rcases Nat.lt_trichotomy n k with h | h | h
      · exact absurd h1 (hn n h)
      · exact h
      · exact absurd hk (h2 k h)
    rw [ho, this]
theorem indexByte_of_none {l : List UInt8} {c : UInt8} (hn : ∀ j, j < l.length → l[j]? ≠ some c) : Lib.indexByte l c = -1 := by
  rcases Int.eq_ofNat_of_zero_le (show 0 ≤ Lib.indexByte l c + 1 by have := Lib.indexByte_ge l c; omega) with ⟨n, hn'⟩
  cases n with
  | zero => omega
  | succ n =>
    obtain ⟨h1, _⟩ := Lib.indexByte_some (show Lib.indexByte l c = (n : Int) by omega)
    have hl : n < l.length := by
      rcases Nat.lt_or_ge n l.length with h | h
      · exact h
      · rw [List.getElem?_eq_none h] at h1; cases h1
    exact absurd h1 (hn n hl)

/-- A letter's value; -1: it is none. -/
def valI (c : UInt8) : Int := Lib.indexByte abc c
theorem valI_lt (c : UInt8) : -1 ≤ valI c ∧ valI c < 32 := by
  refine ⟨Lib.indexByte_ge _ _, ?_⟩
  rcases Int.eq_ofNat_of_zero_le (show 0 ≤ Lib.indexByte abc c + 1 by have := Lib.indexByte_ge abc c; omega) with ⟨n, hn'⟩
  cases n with
  | zero => unfold valI; omega
  | succ n =>
    obtain ⟨h1, _⟩ := Lib.indexByte_some (show Lib.indexByte abc c = (n : Int) by omega)
    have hl : n < 32 := by
      rcases Nat.lt_or_ge n 32 with h | h
      · exact h
      · rw [List.getElem?_eq_none (show abc.length ≤ n from h)] at h1; cases h1
    unfold valI
    omega
theorem abc_eq (k : Nat) (hk : k < 32) : abc[k]? = some (abc.getD k 0) := by
  have : k < abc.length := hk
  simp [List.getD, List.getElem?_eq_getElem this]
theorem abc_ne (k : Nat) (hk : k < 32) (c : UInt8) (h : ¬ (abc.getD k 0).toNat = c.toNat) : abc[k]? ≠ some c := by
  rw [abc_eq k hk]
  intro e
  exact h (by rw [Option.some.inj e])

set_option maxRecDepth 100000 in
set_option maxHeartbeats 400000 in
theorem value_any (c : UInt8) (w : World) :
    Calls Try.prog 33 #[.int .u8 (c.toNat : Int)] w fun e w' => e = .returned (.int .i64 (valI c)) ∧ w = w' := by
  go_enter Try.func33, Try.ntmps33
  go_wp2
  go_loop [3] (fun i => ∃ k : Nat, k ≤ 32 ∧ i = .int .i64 k ∧ Hid (∀ j, j < k → abc[j]? ≠ some c)) (fun i => 32 - (intOf i).toNat)
  case atStart => exact ⟨0, by omega, rfl, Lib.hid (fun j h => absurd h (Nat.not_lt_zero j))⟩
  case round =>
    obtain ⟨k, hk, rfl, HN⟩ := hrel
    by_cases hlt : k < 32
    · have hsz : k < (ByteArray.mk #[48, 49, 50, 51, 52, 53, 54, 55, 56, 57, 97, 98, 99, 100, 102, 103, 104, 105, 106, 107, 108, 109, 110, 112, 113, 114, 115, 118, 119, 120, 121, 122]).size := hlt
      have hi := abc_idx k hsz
      by_cases he : (abc.getD k 0).toNat = c.toNat
      · have hb : ((((ByteArray.mk #[48, 49, 50, 51, 52, 53, 54, 55, 56, 57, 97, 98, 99, 100, 102, 103, 104, 105, 106, 107, 108, 109, 110, 112, 113, 114, 115, 118, 119, 120, 121, 122])[k]).toNat : Int) == (c.toNat : Int)) = true := by rw [hi, he]; simp
        have HE := Lib.hid (show Lib.indexByte abc c = (k : Int) from indexByte_of_at HN.out (by rw [abc_eq k hlt, UInt8.toNat_inj.1 he]))
        clear he hi
        go_wp2
        go_ret
        exact ⟨ret_int HE.out.symm, rfl⟩
      · have hb : ((((ByteArray.mk #[48, 49, 50, 51, 52, 53, 54, 55, 56, 57, 97, 98, 99, 100, 102, 103, 104, 105, 106, 107, 108, 109, 110, 112, 113, 114, 115, 118, 119, 120, 121, 122])[k]).toNat : Int) == (c.toNat : Int)) = false := by rw [hi, beq_eq_false_iff_ne]; omega
        have HE := Lib.hid (abc_ne k hlt c he)
        clear he hi
        go_wp2
        go_round
        case rel =>
          refine ⟨k + 1, by omega, by go_num, Lib.hid fun j hj => ?_⟩
          rcases Nat.lt_or_ge j k with h | h
          · exact HN.out j h
          · rw [show j = k by omega]; exact HE.out
        case measure => simp [intOf]; omega
    · obtain rfl : k = 32 := by omega
      have HE := Lib.hid (show Lib.indexByte abc c = -1 from indexByte_of_none HN.out)
      go_wp2
      go_ret
      exact ⟨ret_int HE.out.symm, rfl⟩
end Go.Proofs.Ytadlimfpcfdgcaa.Nam
