/- Contracts of naming's Letters. -/
import Derived.Test.YtadlimfpcfdgcaaNamD
import Derived.Laws.IdiomStrings
set_option linter.unusedVariables false
set_option linter.unusedSimpArgs false
namespace Go.Proofs.Ytadlimfpcfdgcaa.Nam
open Go.RowKit

def letC (M j : Nat) : List Value := (letters M j).map fun c => Value.int .u8 (c.toNat : Int)
def mod64 (a : Nat) : Nat := a % 18446744073709551616

theorem mod64_lt (a : Nat) : mod64 a < 18446744073709551616 := Nat.mod_lt _ (by decide)
theorem wrap_u64_nat (n : Nat) : IntKind.u64.wrap (n : Int) = (mod64 n : Int) := by rw [IntKind.wrap_u64]; unfold mod64; omega
theorem or_byte (a c : Nat) (hc : c < 256) : bits BinOp.or IntKind.u64 (IntKind.u64.wrap ((mod64 a : Int) * 256)) (IntKind.u64.wrap (c : Int)) = (mod64 (a * 256 + c) : Int) := by
  have e1 : ((mod64 a : Int) * 256) = ((mod64 a * 256 : Nat) : Int) := by omega
  have h1 : mod64 c = c := by unfold mod64; omega
  have h2 : mod64 (mod64 a * 256) % 2 ^ 8 = 0 := by unfold mod64; omega
  rw [e1, wrap_u64_nat, wrap_u64_nat, h1, u64_or_nat _ _ (mod64_lt _) (by omega), nat_join 8 _ _ h2 (by omega)]
  unfold mod64
  omega
theorem and31 (y : Nat) (h : y < 18446744073709551616) : bits BinOp.and IntKind.u64 (y : Int) 31 = ((y % 32 : Nat) : Int) := by
  rw [show (31 : Int) = ((31 : Nat) : Int) from rfl, u64_and_nat _ _ h (by omega), nat_mask5]

theorem abc_idx (x : Nat) (h : x < (ByteArray.mk #[48, 49, 50, 51, 52, 53, 54, 55, 56, 57, 97, 98, 99, 100, 102, 103, 104, 105, 106, 107, 108, 109, 110, 112, 113, 114, 115, 118, 119, 120, 121, 122]).size) : ((ByteArray.mk #[48, 49, 50, 51, 52, 53, 54, 55, 56, 57, 97, 98, 99, 100, 102, 103, 104, 105, 106, 107, 108, 109, 110, 112, 113, 114, 115, 118, 119, 120, 121, 122])[x]).toNat = (abc.getD x 0).toNat := by
  have e : ∀ v : Fin 32, ((ByteArray.mk #[48, 49, 50, 51, 52, 53, 54, 55, 56, 57, 97, 98, 99, 100, 102, 103, 104, 105, 106, 107, 108, 109, 110, 112, 113, 114, 115, 118, 119, 120, 121, 122])[v.val]'(v.isLt)).toNat = (abc.getD v.val 0).toNat := by decide +kernel
  exact e ⟨x, h⟩
theorem letC_succ (M j : Nat) : letC M (j + 1) = letC M j ++ [Value.int .u8 ((abc.getD (letNo M j) 0).toNat : Int)] := by simp [letC, letters_succ]
theorem idx_of (d : Nat → Nat) (hd : ∀ i, d i < 256) (k j q : Nat) (hk : k < 20) (h : q + 5 + 5 * j = 8 * (k + 1)) (hq : q < 13) : bits BinOp.and IntKind.u64 ((mod64 (num d (k + 1)) : Int) / 2 ^ q) 31 = (letNo (num d 20) j : Int) := by
  rw [cast_div, and31 _ (Nat.lt_of_le_of_lt (Nat.div_le_self _ _) (mod64_lt _))]
  exact congrArg Int.ofNat (let_of d hd (k + 1) j q (by omega) (by omega) (by omega))

theorem convert_own {P : Program} {wr : World} {base : Nat} {E src dst : TypeId} {v : Value} {l : List UInt8} (hown : wr.ownsRow base E 1 v l.length (l.map fun c => Value.int .u8 (c.toNat : Int)))
    (hs : P.underlying src = some (.slice E)) (he : P.underlying E = some (.int .u8)) (hd : P.underlying dst = some .string) :
    (convert src dst v).run P wr = .ok (.string (strOf l)) wr := by
  obtain ⟨hl, ⟨rfl, h0⟩ | ⟨g, cap, cur, rfl, hg, hgg, hn, hcm, hcs, htk⟩⟩ := hown
  · have : l = [] := List.eq_nil_of_length_eq_zero h0
    subst this
    rw [run_convert_bytes_string wr src dst E none 0 0 hs he hd]
    simp [Conv.bytesToString, strOf]
    rfl
  · refine run_convert_bytes_back wr src dst E ⟨g, 0, none⟩ cap l hs he hd fun j hj => ?_
    have h1 : wr.cell? ((⟨g, 0, none⟩ : Addr).add j) = cur[j]? := by
      unfold Addr.add
      split
      · rename_i h; subst h; simp [World.cell?, hgg]
      · simp [World.cell?, hgg]
    have : (l.map fun c => Value.int .u8 (c.toNat : Int))[j]? = some (.int .u8 (l[j].toNat : Int)) := by simp [List.getElem?_eq_getElem hj]
    rw [← htk, List.getElem?_take_of_lt (by omega)] at this
    rw [h1]
    simpa using this

set_option maxRecDepth 100000 in
set_option maxHeartbeats 400000 in
theorem letters_any (d : Nat → Nat) (hd : ∀ i, d i < 256) (w : World) :
    Calls Try.prog 10 #[.agg (digA d 32)] w fun e w' => e = .returned (.string (strOf (letters (num d 20) 32))) ∧ Below w.heap.size w w' := by
  have HD := Lib.hid hd
  clear hd
  obtain ⟨i0, hi, hz0, hz1, hz2⟩ := info_parts infoU8
  go_enter Try.func10, Try.ntmps10
  go_wp2_with (at_make; refine wpList_make_own _ rfl _ _ 22 rfl (w.heap.size + 1) 5 i0 (.int .u8 0) 1 Try.underlying22 hi hz0 hz1 .i64 .i64 _ 32 rfl rfl rfl ?m1 ?m2 ?m3 ?_)
  case m1 => omega
  case m2 => unfold maxLen; omega
  case m3 => simp
  intro w1 hown hg
  have hb := (Below.refl (w.heap.size + 1) (w.alloc (.cells (digA d 32) 29))).grown hg (by simp) (fun _ h => by cases h)
  clear hg
  go_wp2
  go_loopw [3, 4, 5, 11] (fun v b n i wr => ∃ k j m : Nat, k ≤ 20 ∧ j ≤ 32 ∧ m < 5 ∧ m + 5 * j = 8 * k ∧ i = .int .i64 k ∧ n = .int .i64 m ∧ b = .int .u64 (mod64 (num d k) : Int) ∧ wr.ownsRow (w.heap.size + 1) 5 1 v j (letC (num d 20) j) ∧ Below (w.heap.size + 1) (w.alloc (.cells (digA d 32) 29)) wr) (fun _ _ _ i _ => 20 - (intOf i).toNat)
  case atStart => exact ⟨0, 0, 0, by omega, by omega, by omega, by omega, rfl, rfl, rfl, hown, hb⟩
  case round =>
    obtain ⟨k, j, m, hk, hj, hm, hmj, rfl, rfl, rfl, hown, hb⟩ := hrel
    have hsz := hb.size
    simp only [World.size_alloc] at hsz
    by_cases hlt : k < 20
    · have hcell : wr.cell? ⟨w.heap.size, k, none⟩ = some (.int .u8 (d k : Int)) := by
        rw [hb.cell (p := ⟨w.heap.size, k, none⟩) (by simp), World.cell?_alloc_at _ _ _ _ rfl]
        exact digA_get d 32 k (by omega)
      have hdk : decide ((k : Int) < 20) = true := by simp; omega
      have HM := Lib.hid hmj
      clear hmj
      have eb := or_byte (num d k) (d k) (HD.out k)
      rw [show num d k * 256 + d k = num d (k + 1) from rfl] at eb
      go_wp2
      go_loopw [3, 5] (fun v n wr => ∃ j m : Nat, j ≤ 32 ∧ m < 13 ∧ Hid (m + 5 * j = 8 * (k + 1)) ∧ n = .int .i64 m ∧ wr.ownsRow (w.heap.size + 1) 5 1 v j (letC (num d 20) j) ∧ Below (w.heap.size + 1) (w.alloc (.cells (digA d 32) 29)) wr) (fun _ n _ => (intOf n).toNat)
      case atStart => exact ⟨j, m + 8, by omega, by omega, Lib.hid (by have := HM.out; omega), by go_num, hown, hb⟩
      case round =>
        clear hown hb hcell eb
        obtain ⟨j, m, hj, hm, HM, rfl, hown, hb⟩ := hrel
        by_cases hm5 : 5 ≤ m
        · obtain ⟨q, rfl⟩ : ∃ q, m = q + 5 := ⟨m - 5, by omega⟩
          have eI := idx_of d HD.out k j q hlt (by have := HM.out; omega) (by omega)
          have hx := letNo_lt (num d 20) j
          have HS := Lib.hid (letC_succ (num d 20) j)
          have hj32 : j < 32 := by have := HM.out; omega
          generalize letNo (num d 20) j = x at *
          go_wp2_with (at_builtin; refine wpList_append_own _ rfl _ _ 22 rfl (w.heap.size + 1) 5 i0 (.int .u8 0) 1 1 Try.underlying22 hi hz0 hz1 hz2 rfl (by decide) _ _ _ rfl (hown.alloc _) ⟨wr.heap.size, 0, none⟩ 1 1 [.int .u8 ((ByteArray.mk #[48, 49, 50, 51, 52, 53, 54, 55, 56, 57, 97, 98, 99, 100, 102, 103, 104, 105, 106, 107, 108, 109, 110, 112, 113, 114, 115, 118, 119, 120, 121, 122])[x].toNat : Int)] rfl rfl ?c1 ?c2 ?c3 ?c4 ?c5 ?_)
          case c1 =>
            intro j u hj
            match j, hj with
            | 0, hj => simp at hj; subst hj; simp [Addr.add]
          case c2 => intro u hu; simp at hu; subst hu; rfl
          case c3 => unfold maxLen; omega
          case c4 => omega
          case c5 => have := hb.size; simp at this; simp; omega
          intro v' w1 hown' hgrow _
          rw [abc_idx, ← HS.out] at hown'
          have hb' := ((hb.alloc (by have := hb.size; simp at this; omega) _).grown hgrow (by have := hb.size; simp at this; simp; omega) (fun g hg => (hown.lt g hg).1))
          clear hown hb hgrow eI
          go_wp2
          go_roundw
          case rel =>
            exact ⟨j + 1, q, by omega, by omega, Lib.hid (by have := HM.out; omega), by go_num, hown', hb'⟩
          case measure => simp [intOf]; omega
        · go_wp2
          go_roundw
          case rel => exact ⟨k + 1, j, m, by omega, by omega, by omega, HM.out, by go_num, rfl, rfl, hown, hb⟩
          case measure => simp [intOf]; omega
    · obtain rfl : k = 20 := by omega
      obtain rfl : j = 32 := by omega
      have hcv := convert_own (P := Try.prog) (src := 22) (dst := 9) (l := letters (num d 20) 32) (by rw [letters_len]; exact hown) Try.underlying22 Try.underlying5 Try.underlying9
      clear hmj
      go_wp2
      go_ret
      exact ⟨rfl, (((Below.refl _ _).alloc (Nat.le_refl _) _).trans (hb.mono (by omega)))⟩
end Go.Proofs.Ytadlimfpcfdgcaa.Nam
