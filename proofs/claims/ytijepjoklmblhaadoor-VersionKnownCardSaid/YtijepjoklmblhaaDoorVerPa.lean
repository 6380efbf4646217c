/- The reference's digits; the table that Itoa reads. -/
import Derived.Test.YtijepjoklmblhaaDoorVerZ
import Derived.Lib.LaidTab
namespace Go.Proofs.YtijepjoklmblhaaDoor
open Go.RowKit Go.BigFrame
open Ver (prt okTag BL)

def dS (n : Nat) : ByteArray := ⟨(Lib.decDigits n).toArray⟩
theorem dS_list (n : Nat) : (dS n).data.toList = Lib.decDigits n := by simp [dS]
theorem one_byte (w : World) (c : Nat) (hc : c < 256) (z : Int) (hz : z = (c : Int)) :
    (convert 58 9 (.slice (some ⟨w.heap.size, 0, none⟩) 1 1)).run Tryd.prog (w.alloc (.cells #[.int .u8 z] 5)) = .ok (.string ⟨#[UInt8.ofNat c]⟩) (w.alloc (.cells #[.int .u8 z] 5)) := by
  subst hz
  have hH : Holds (w.alloc (.cells #[.int .u8 (c : Int)] 5)) (w.alloc (.cells #[.int .u8 (c : Int)] 5)).heap.size (some ⟨w.heap.size, 0, none⟩) 1 (fun _ => c) := holds_new w 5 (fun _ => c) 1 (0, 0)
  have := convert_holds (P := Tryd.prog) (src := 58) (dst := 9) (fun _ => hc) hH (fun h => by cases h) (Nat.le_refl 1) Tryd.underlying58 Tryd.underlying5 Tryd.underlying9
  rw [this]
  rfl
theorem dec_more (n : Nat) (h : ¬ n < 10) : Lib.decDigits n = Lib.decDigits (n / 10) ++ [UInt8.ofNat (48 + n % 10)] := Ver.dec_step n h
set_option maxRecDepth 100000 in
set_option maxHeartbeats 800000 in
theorem digits_any (n : Nat) (hn : n < 1000000000) (w : World) : Calls Tryd.prog 25 #[.int .i64 (n : Int)] w fun e w' => e = .returned (.string (dS n)) ∧ Below w.heap.size w w' := by
  go_enter Tryd.func25, Tryd.ntmps25
  go_wp2
  go_loopw [0, 3] (fun m s wr => ∃ (k : Nat) (S : ByteArray), k < 1000000000 ∧ m = .int .i64 (k : Int) ∧ s = .string S ∧ S.size ≤ 20 ∧ Hid (Lib.decDigits n = Lib.decDigits k ++ S.data.toList) ∧ Below w.heap.size w wr) (fun m _ _ => (intOf m).toNat)
  case atStart => exact ⟨n, ⟨#[]⟩, hn, rfl, rfl, by decide, Lib.hid (by simp), Below.refl _ _⟩
  case round =>
    obtain ⟨k, S, hk, rfl, rfl, hS, HD, hb⟩ := hrel
    by_cases h9 : k < 10
    · have hcv := one_byte wr (48 + k) (by omega) (48 + (k : Int)) (by omega)
      have HF := Lib.hid (show (⟨#[UInt8.ofNat (48 + k)]⟩ : ByteArray) ++ S = dS n from str_ext (by rw [dS_list, HD.out, Lib.decDigits_one h9]; simp))
      have hz1 : (⟨#[UInt8.ofNat (48 + k)]⟩ : ByteArray).size = 1 := rfl
      obtain ⟨c1, hc1⟩ : ∃ c1, c1 = (⟨#[UInt8.ofNat (48 + k)]⟩ : ByteArray) := ⟨_, rfl⟩
      rw [← hc1] at hcv HF hz1
      clear hc1
      have hzz : c1.size ≤ 1 := by omega
      clear hz1
      go_wp2
      go_ret
      exact ⟨by rw [← HF.out]; rfl, hb.alloc hb.size _⟩
    · have hcv := one_byte wr (48 + k % 10) (by omega) (48 + (k : Int) % 10) (by omega)
      have HF := Lib.hid (show Lib.decDigits n = Lib.decDigits (k / 10) ++ ((⟨#[UInt8.ofNat (48 + k % 10)]⟩ : ByteArray) ++ S).data.toList by rw [HD.out, dec_more k h9]; simp)
      have hz1 : (⟨#[UInt8.ofNat (48 + k % 10)]⟩ : ByteArray).size = 1 := rfl
      obtain ⟨c1, hc1⟩ : ∃ c1, c1 = (⟨#[UInt8.ofNat (48 + k % 10)]⟩ : ByteArray) := ⟨_, rfl⟩
      rw [← hc1] at hcv HF hz1
      clear hc1
      have hzz : c1.size ≤ 1 := by omega
      have HSZ := Lib.hid (show (c1 ++ S).size ≤ 20 by
        have h1 := congrArg List.length HF.out
        have h2 := Ver.dec_len n hn
        rw [List.length_append, len_data] at h1
        omega)
      clear hz1
      go_wp2
      go_roundw
      case rel => exact ⟨k / 10, c1 ++ S, by omega, by go_num, rfl, HSZ.out, HF, hb.alloc hb.size _⟩
      case measure => simp [intOf]; omega

/-- The table that Itoa reads. -/
def TabW (w : World) : Prop := Lib.TabIs Tryd.prog w "internal/strconv.uint64pow10" .u64 Lib.pow10Tab
theorem gTab : Tryd.prog.globalNamed "internal/strconv.uint64pow10" = some 1 := by kernel_rfl
theorem TabW.lt {w : World} (h : TabW w) : 1 < w.heap.size := block_lt_of_cell (Lib.TabIs.cell h gTab 0 (by rw [Lib.pow10Tab_length]; decide))
theorem TabW.below {w w' : World} (h : TabW w) (hb : Below w.heap.size w w') : TabW w' := by
  have hlt := h.lt
  unfold TabW Lib.TabIs World.var? at *
  rw [gTab] at *
  simp only [Option.bind_some] at *
  rw [hb.block _ hlt]
  exact h
/-- What Print answers. -/
def okP (xs : List Int) (t : ByteArray) : Bool := decide (1 ≤ xs.length ∧ xs.length ≤ 8) && xs.all (fun n => decide (0 ≤ n ∧ n ≤ 999999999)) && okTag t.data.toList
def toN (xs : List Int) : List Nat := xs.map Int.toNat
def printS (xs : List Int) (t : ByteArray) : ByteArray := if okP xs t = true then ⟨(prt (toN xs) t.data.toList).toArray⟩ else ⟨#[]⟩
def errP (xs : List Int) (t : ByteArray) : Int := if okP xs t = true then 0 else 130
theorem okP_len (xs : List Int) (t : ByteArray) (h : ¬ (1 ≤ xs.length ∧ xs.length ≤ 8)) : okP xs t = false := by unfold okP; rw [decide_eq_false h]; rfl
theorem okP_tag (xs : List Int) (t : ByteArray) (h : okTag t.data.toList = false) : okP xs t = false := by unfold okP; rw [h, Bool.and_false]
theorem okP_num (xs : List Int) (t : ByteArray) (k : Nat) (hk : k < xs.length) (h : ¬ (0 ≤ xs.getD k 0 ∧ xs.getD k 0 ≤ 999999999)) : okP xs t = false := by
  unfold okP
  have : xs.all (fun n => decide (0 ≤ n ∧ n ≤ 999999999)) = false := by
    rw [List.all_eq_false]
    exact ⟨xs.getD k 0, by simp [List.getD, hk], by simpa using h⟩
  rw [this, Bool.and_false, Bool.false_and]
theorem okP_all (xs : List Int) (t : ByteArray) (h1 : 1 ≤ xs.length ∧ xs.length ≤ 8) (h2 : xs.all (fun n => decide (0 ≤ n ∧ n ≤ 999999999)) = true) (h3 : okTag t.data.toList = true) : okP xs t = true := by
  unfold okP; rw [h2, h3, decide_eq_true h1]; rfl
theorem printS_no {xs : List Int} {t : ByteArray} (h : okP xs t = false) : printS xs t = ⟨#[]⟩ ∧ errP xs t = 130 := by unfold printS errP; rw [if_neg (by rw [h]; simp), if_neg (by rw [h]; simp)]; exact ⟨rfl, rfl⟩
theorem printS_yes {xs : List Int} {t : ByteArray} (h : okP xs t = true) : printS xs t = ⟨(prt (toN xs) t.data.toList).toArray⟩ ∧ errP xs t = 0 := by unfold printS errP; rw [if_pos h, if_pos h]; exact ⟨rfl, rfl⟩
theorem ret_se {a b : ByteArray} {c d : Int} (h : a = b) (h2 : c = d) : Ending.returned (.tuple #[.string a, .int .i64 c]) = .returned (.tuple #[.string b, .int .i64 d]) := by rw [h, h2]
theorem itoa_dec (n : Int) (h : 0 ≤ n) : (⟨(Lib.itoa n).toArray⟩ : ByteArray) = dS n.toNat := by unfold Lib.itoa dS; rw [if_neg (by omega)]
end Go.Proofs.YtijepjoklmblhaaDoor
