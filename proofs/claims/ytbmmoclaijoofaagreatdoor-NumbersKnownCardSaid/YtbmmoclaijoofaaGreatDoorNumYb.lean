/- numbers: the reference's number, scaled. -/
import Derived.Test.YtbmmoclaijoofaaGreatDoorNumYa
set_option linter.unusedVariables false
set_option linter.unusedSimpArgs false
namespace Go.Proofs.YtbmmoclaijoofaaGreatDoor
open Go.RowKit Go.BigFrame
open Num (nanB sg rg rv sv tv key eqF ltF cmpI wd infR R53 P0 wholeR flN ONE TWO decS expS textR textN oddM oddE)

def NumPost (s : ByteArray) (w : World) (e : Ending) (w' : World) : Prop := w' = w ∧ ∃ (n : Nat) (ok : Bool), e = .returned (.tuple #[.int .i64 (n : Int), .bool ok]) ∧ NumOk s n ok
theorem num_nil {s : ByteArray} (hz : s.size = 0) : NumOk s 0 false := ⟨by decide, fun u _ h => by
  exfalso
  obtain ⟨c, l, h1, _⟩ := dec_head u
  have := len_data s
  rw [h, decS_list, h1] at this
  rw [← h, hz] at this
  simp at this⟩
theorem num_long {s : ByteArray} (hz : 16 < s.size) : NumOk s 0 false := ⟨by decide, fun u hu h => by
  exfalso
  have := decS_small 15 u (by omega)
  rw [← h] at this
  omega⟩
theorem num_not {s : ByteArray} {k n : Nat} {c : UInt8} (hk : s.data.toList.drop k = c :: s.data.toList.drop (k + 1)) (hc : ¬ (48 ≤ c.toNat ∧ c.toNat ≤ 57)) (h : ∀ u, u < 2 ^ 53 → s = decS u → p53 n (s.data.toList.drop k) = some u) : NumOk s 0 false :=
  ⟨by decide, fun u hu hs => by
    exfalso
    have := h u hu hs
    rw [hk, p53, if_neg hc] at this
    cases this⟩
theorem num_step {s : ByteArray} {k n : Nat} {c : UInt8} (hk : s.data.toList.drop k = c :: s.data.toList.drop (k + 1)) (hc : 48 ≤ c.toNat ∧ c.toNat ≤ 57) (h : ∀ u, u < 2 ^ 53 → s = decS u → p53 n (s.data.toList.drop k) = some u) :
    ∀ u, u < 2 ^ 53 → s = decS u → p53 (n * 10 + (c.toNat - 48)) (s.data.toList.drop (k + 1)) = some u := fun u hu hs => by
  have := h u hu hs
  rw [hk, p53, if_pos hc] at this
  split at this
  · cases this
  · exact this
theorem num_end {s : ByteArray} {n : Nat} (hn : n < 100000000000000000) (h : ∀ u, u < 2 ^ 53 → s = decS u → p53 n (s.data.toList.drop s.size) = some u) : NumOk s n true := ⟨hn, fun u hu hs => by
  have := h u hu hs
  rw [List.drop_eq_nil_of_le (by rw [len_data]; omega)] at this
  unfold p53 at this
  exact ⟨Option.some.inj this, rfl⟩⟩
theorem num_start (s : ByteArray) : ∀ u, u < 2 ^ 53 → s = decS u → p53 0 (s.data.toList.drop 0) = some u := fun u hu hs => by
  subst hs
  rw [List.drop_zero, decS_list]; exact p53_dec u hu
theorem drop_at {s : ByteArray} {k : Nat} (h : k < s.size) : s.data.toList.drop k = s[k] :: s.data.toList.drop (k + 1) := by
  have := len_data s
  rw [List.drop_eq_getElem_cons (by omega)]
  rfl
set_option maxRecDepth 100000 in
set_option maxHeartbeats 1600000 in
theorem number_any (s : ByteArray) (w : World) (hs : s.size ≤ 1000) : Calls Tryz.prog 67 #[.string s] w (NumPost s w) := by
  have HP := Lib.hid (fun (n : Nat) (ok : Bool) (h : NumOk s n ok) => show NumPost s w (.returned (.tuple #[.int .i64 (n : Int), .bool ok])) w from ⟨rfl, n, ok, rfl, h⟩)
  generalize NumPost s w = post at *
  have HS := Lib.hid (num_start s)
  go_enter Tryz.func67, Tryz.ntmps67
  go_wp2
  go_loop [4, 5] (fun nv iv => ∃ (k n : Nat), nv = .int .i64 (n : Int) ∧ iv = .int .i64 (k : Int) ∧ k ≤ s.size ∧ k ≤ 16 ∧ Hid (n < 10 ^ k) ∧ Hid (∀ u, u < 2 ^ 53 → s = decS u → p53 n (s.data.toList.drop k) = some u)) (fun _ iv => s.size - (intOf iv).toNat)
  case atStart => exact ⟨0, 0, rfl, rfl, by omega, by omega, Lib.hid (by decide), HS⟩
  case round =>
    obtain ⟨k, n, rfl, rfl, hk, hk16, HB, HU⟩ := hrel
    by_cases hlt : k < s.size
    · have HD := Lib.hid (drop_at hlt)
      have hcs := s[k].toNat_lt
      by_cases h15 : k ≤ 15
      · have hn15 : n < 1000000000000000 := Nat.lt_of_lt_of_le HB.out (Nat.le_trans (Nat.pow_le_pow_right (by decide) h15) (by decide))
        by_cases hdig : 48 ≤ s[k].toNat ∧ s[k].toNat ≤ 57
        · have HU2 := Lib.hid (num_step HD.out hdig HU.out)
          have HB2 : Hid (n * 10 + (s[k].toNat - 48) < 10 ^ (k + 1)) := Lib.hid (by have h1 := HB.out; rw [Nat.pow_succ]; omega)
          obtain ⟨d0, d1⟩ := hdig
          clear HB HU HD
          go_wp2
          go_round
          case rel => exact ⟨k + 1, n * 10 + (s[k].toNat - 48), by go_num, by go_num, by omega, by omega, HB2, HU2⟩
          case measure => simp [intOf]; omega
        · have HQ := Lib.hid (HP.out 0 false (num_not HD.out hdig HU.out))
          clear HB HU HD
          by_cases d0 : 48 ≤ s[k].toNat
          · have d1 : 57 < s[k].toNat := by omega
            clear hdig
            go_wp2
            exact HQ.out
          · clear hdig
            go_wp2
            exact HQ.out
      · have HQ := Lib.hid (HP.out 0 false (num_long (s := s) (by omega)))
        have hk2 : k = 16 := by omega
        subst hk2
        clear HB HU HD h15
        by_cases d0 : 48 ≤ s[16].toNat
        · by_cases d1 : s[16].toNat ≤ 57
          · go_wp2
            exact HQ.out
          · go_wp2
            exact HQ.out
        · go_wp2
          exact HQ.out
    · obtain rfl : k = s.size := by omega
      have hn17 : n < 100000000000000000 := Nat.lt_of_lt_of_le HB.out (Nat.le_trans (Nat.pow_le_pow_right (by decide) hk16) (by decide))
      by_cases hz : s.size = 0
      · have hn0 : n = 0 := by have h1 := HB.out; rw [hz] at h1; simpa using h1
        subst hn0
        have HQ := Lib.hid (HP.out 0 false (num_nil hz))
        have hz2 : ¬ 0 < s.size := by omega
        clear HB HU hz
        go_wp2
        exact HQ.out
      · have HQ := Lib.hid (HP.out n true (num_end hn17 HU.out))
        have hz2 : 0 < s.size := by omega
        clear HB HU hz
        go_wp2
        exact HQ.out
def ScPost (m : Nat) (E : Int) (w : World) (e : Ending) (w' : World) : Prop := Below w.heap.size w w' ∧ ∃ x, e = .returned (.float .f64 x) ∧ x < 2 ^ 64 ∧ Chain m E 0 x
set_option maxRecDepth 100000 in
set_option maxHeartbeats 1600000 in
theorem scaled_any (m : Nat) (E : Int) (w : World) (h1 : -1200 ≤ E) (h2 : E ≤ 1200) : Calls Tryz.prog 68 #[.int .i64 (m : Int), .int .i64 E] w (ScPost m E w) := by
  have HP := Lib.hid (fun (x : Nat) (w' : World) (hb : Below w.heap.size w w') (hx : x < 2 ^ 64) (h : Chain m E 0 x) => show ScPost m E w (.returned (.float .f64 x)) w' from ⟨hb, x, rfl, hx, h⟩)
  generalize ScPost m E w = post at *
  have hcv := fun w => run_convert_int_float (P := Tryz.prog) w 3 25 .i64 .f64 (m : Int) (by kernel_rfl) Tryz.underlying25
  have HX := Lib.hid (And.intro (float_lt (m : Int)) (chain_start m E))
  generalize Go.floatOfInt .f64 (m : Int) = x0 at *
  go_enter Tryz.func68, Tryz.ntmps68
  go_wp2
  go_loopw [1, 5] (fun ev xv wr => ∃ (e : Int) (x : Nat), ev = .int .i64 e ∧ xv = .float .f64 x ∧ e ≤ E ∧ (0 ≤ e ∨ e = E) ∧ Hid (x < 2 ^ 64 ∧ Chain m E e x) ∧ Hid (Below w.heap.size w wr)) (fun ev _ _ => (intOf ev).toNat)
  case atStart => exact ⟨E, x0, rfl, rfl, by omega, .inr rfl, HX, Lib.hid (Below.refl _ _)⟩
  case round =>
    obtain ⟨e, x, rfl, rfl, hle, hor, HX, HB⟩ := hrel
    by_cases h0 : 0 < e
    · obtain ⟨y, w1, hwk, hb1, hrun⟩ := run_works (P := Tryz.prog) wr .mul 25 x 4611686018427387904 (by simp)
      have HX2 := Lib.hid (And.intro hwk.1 (chain_mul HX.out.2 h0 hle hwk))
      have HB2 := Lib.hid (step_below HB.out hb1)
      clear hwk hb1 HX HB hor
      go_wp2
      go_roundw
      case rel => exact ⟨e - 1, y, by go_num, rfl, by omega, by omega, HX2, HB2⟩
      case measure => simp [intOf]; omega
    · have hs0 : e ≤ 0 := by omega
      have hs1 : E ≤ e ∨ e = 0 := by omega
      have hs2 : -1200 ≤ e := by omega
      clear hor hle
      go_wp2
      go_loopw [1, 5] (fun ev xv wr => ∃ (e : Int) (x : Nat), ev = .int .i64 e ∧ xv = .float .f64 x ∧ e ≤ 0 ∧ (E ≤ e ∨ e = 0) ∧ -1200 ≤ e ∧ Hid (x < 2 ^ 64 ∧ Chain m E e x) ∧ Hid (Below w.heap.size w wr)) (fun ev _ _ => (-intOf ev).toNat)
      case atStart => exact ⟨e, x, rfl, rfl, hs0, hs1, hs2, HX, HB⟩
      case round =>
        obtain ⟨e, x, rfl, rfl, hs0, hs1, hs2, HX, HB⟩ := hrel
        by_cases h0 : e < 0
        · obtain ⟨y, w1, hwk, hb1, hrun⟩ := run_works (P := Tryz.prog) wr .quo 25 x 4611686018427387904 (by simp)
          have HX2 := Lib.hid (And.intro hwk.1 (chain_div HX.out.2 h0 (by omega) hwk))
          have HB2 := Lib.hid (step_below HB.out hb1)
          have hs3 : E ≤ e + 1 ∨ e + 1 = 0 := by omega
          clear hwk hb1 HX HB hs1
          go_wp2
          go_roundw
          case rel => exact ⟨e + 1, y, by go_num, rfl, by omega, hs3, by omega, HX2, HB2⟩
          case measure => simp [intOf]; omega
        · obtain rfl : e = 0 := by omega
          have HQ := Lib.hid (HP.out x wr HB.out HX.out.1 HX.out.2)
          clear HX HB hs1
          go_wp2
          exact HQ.out
end Go.Proofs.YtbmmoclaijoofaaGreatDoor
