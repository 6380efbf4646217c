/- numbers: strconv.ParseUint at base 10 and 53 bits. -/
import Derived.Test.YtbmmoclaijoofaaGreatDoorNumO
import Derived.Lib.AtoiAll
import Derived.Lib.ConvBytes
import Derived.Lib.AtoiErrMem
set_option linter.unusedVariables false
set_option linter.unusedSimpArgs false
namespace Go.Proofs.YtbmmoclaijoofaaGreatDoor
open Go.RowKit Go.BigFrame

/-- A whole number of digits, less than 2^53. -/
def p53 (acc : Nat) : List UInt8 → Option Nat
  | [] => some acc
  | c :: r => if 48 ≤ c.toNat ∧ c.toNat ≤ 57 then (if 9007199254740991 < acc * 10 + (c.toNat - 48) then none else p53 (acc * 10 + (c.toNat - 48)) r) else none
/-- How it ends: the number and no error; or an error of its own. -/
def UintEnd (o : Option Nat) (e : Ending) : Prop := match o with
  | some u => e = .returned (.tuple #[.int .u64 (u : Int), .nilIface])
  | none => ∃ (n k : Int), (k = 1 ∨ k = 2) ∧ e = .returned (.tuple #[.int .u64 n, .iface 94 (.int .i64 k)])
set_option maxRecDepth 100000 in
set_option maxHeartbeats 16000000 in
theorem inner_some (t : ByteArray) (hne : t.size ≠ 0) (hmax : t.size ≤ 9223372036854775806) (w : World) :
    Calls Tryz.prog 86 #[.string t, .int .i64 10, .int .i64 53] w fun e w' => UintEnd (p53 0 t.data.toList) e ∧ Below w.heap.size w w' := by
  have hemp : t.toList.isEmpty = false := by
    rw [← decide_eq_emptyBytes]
    exact decide_eq_false (fun h => hne (by rw [h]; rfl))
  have hcv := Lib.run_convert_string_bytes (P := Tryz.prog) w 9 59 5 t (u := .string) Tryz.underlying9 Tryz.underlying59 Tryz.underlying5
  have hB : ∀ j, j < t.size → (Lib.bytesWorld w 5 t).cell? ⟨w.heap.size, j, none⟩ = some (.int .u8 (t.data.toList.getD j 0).toNat) := fun j hj => Lib.bytesWorld_cell w 5 t j hj
  have HBW := Lib.hid (Lib.bytesWorld_below w 5 t)
  obtain ⟨W1, hW1⟩ : ∃ W1, W1 = Lib.bytesWorld w 5 t := ⟨_, rfl⟩
  rw [← hW1] at hcv hB HBW
  clear hW1
  obtain ⟨bs, hL⟩ : ∃ bs, bs = t.data.toList := ⟨_, rfl⟩
  have hLn : bs.length = t.size := by rw [hL, len_data]
  rw [← hL] at hB ⊢
  clear hL
  have HS := Lib.hid (fun (u : Nat) (h : p53 0 bs = some u) => show UintEnd (p53 0 bs) (.returned (.tuple #[.int .u64 (u : Int), .nilIface])) ∧ Below w.heap.size w W1 from ⟨by rw [h]; exact rfl, HBW.out⟩)
  have HNO := Lib.hid (fun (n k : Int) (hk : k = 1 ∨ k = 2) (h : p53 0 bs = none) => show UintEnd (p53 0 bs) (.returned (.tuple #[.int .u64 n, .iface 94 (.int .i64 k)])) ∧ Below w.heap.size w W1 from ⟨by rw [h]; exact ⟨n, k, hk, rfl⟩, HBW.out⟩)
  have HPO := Lib.hid (show (fun e w' => UintEnd (p53 0 bs) e ∧ Below w.heap.size w w') = (fun e w' => UintEnd (p53 0 bs) e ∧ Below w.heap.size w w') from rfl)
  obtain ⟨post, hpost⟩ : ∃ post : Ending → World → Prop, post = (fun e w' => UintEnd (p53 0 bs) e ∧ Below w.heap.size w w') := ⟨_, rfl⟩
  have HS2 := Lib.hid (fun (u : Nat) (h : p53 0 bs = some u) => show post (.returned (.tuple #[.int .u64 (u : Int), .nilIface])) W1 by rw [hpost]; exact HS.out u h)
  have HN2 := Lib.hid (fun (n k : Int) (hk : k = 1 ∨ k = 2) (h : p53 0 bs = none) => show post (.returned (.tuple #[.int .u64 n, .iface 94 (.int .i64 k)])) W1 by rw [hpost]; exact HNO.out n k hk h)
  rw [← hpost]
  clear hpost HPO HS HNO HBW
  go_enter Tryz.func86, Tryz.ntmps86
  go_wp2
  go_loop [12, 13, 101] (fun vu vn vi => ∃ (k acc : Nat) (a : Int), vu = .bool false ∧ vn = .int .u64 a ∧ vi = .int .i64 k ∧ k ≤ t.size ∧ Hid (a = (acc : Int) ∧ acc ≤ 9007199254740991 ∧ p53 0 bs = p53 acc (bs.drop k)))
    (fun _ _ vi => t.size - (intOf vi).toNat)
  case atStart => exact ⟨0, 0, 0, rfl, rfl, rfl, by omega, rfl, by omega, rfl⟩
  case round =>
    obtain ⟨k, acc, a, rfl, rfl, rfl, hk, hh⟩ := hrel
    obtain ⟨ha, hacc, hdec⟩ := hh.out
    clear hh
    have a0 : 0 ≤ a := by omega
    have a1 : a ≤ 9007199254740991 := by omega
    by_cases hkn : k < t.size
    · have hc := hB k hkn
      have hdrop : bs.drop k = bs[k]'(by omega) :: bs.drop (k + 1) := List.drop_eq_getElem_cons (by omega)
      have hget : bs.getD k 0 = bs[k]'(by omega) := by simp [List.getD, List.getElem?_eq_getElem (show k < bs.length by omega)]
      rw [hdrop] at hdec
      rw [hget] at hc
      generalize bs[k]'(by omega) = c at hc hdec
      have hc256 : c.toNat < 256 := c.toNat_lt
      clear hB hdrop hget
      by_cases hdig : 48 ≤ c.toNat ∧ c.toNat ≤ 57
      · obtain ⟨hd0, hd1⟩ := hdig
        by_cases hov : 9007199254740991 < acc * 10 + (c.toNat - 48)
        · have hF : p53 acc (c :: bs.drop (k + 1)) = none := by unfold p53; rw [if_pos ⟨hd0, hd1⟩, if_pos hov]
          have HQ := Lib.hid (HN2.out 9007199254740991 1 (.inl rfl) (hdec.trans hF))
          have iov : 9007199254740991 < a * 10 + ((c.toNat : Int) - 48) := by omega
          clear hacc hF hov ha hdec
          go_wp2
          exact HQ.out
        · have hF : p53 acc (c :: bs.drop (k + 1)) = p53 (acc * 10 + (c.toNat - 48)) (bs.drop (k + 1)) := by rw [p53, if_pos ⟨hd0, hd1⟩, if_neg hov]
          have HN : Hid (a * 10 + ((c.toNat : Int) - 48) = ((acc * 10 + (c.toNat - 48) : Nat) : Int) ∧ acc * 10 + (c.toNat - 48) ≤ 9007199254740991 ∧ p53 0 bs = p53 (acc * 10 + (c.toNat - 48)) (bs.drop (k + 1))) := Lib.hid ⟨by omega, by omega, hdec.trans hF⟩
          have iov : a * 10 + ((c.toNat : Int) - 48) ≤ 9007199254740991 := by omega
          clear hacc hF hov hdec ha
          go_wp2
          refine ⟨⟨k + 1, acc * 10 + (c.toNat - 48), a * 10 + ((c.toNat : Int) - 48), rfl, (by first | rfl | (congr 1; omega)), (by first | rfl | (congr 1; omega)), by omega, HN⟩, by simp [intOf]; omega⟩
      · have hF : p53 acc (c :: bs.drop (k + 1)) = none := by unfold p53; rw [if_neg hdig]
        have HQ := Lib.hid (HN2.out 0 2 (.inr rfl) (hdec.trans hF))
        clear hacc hF ha hdec
        have hv0 := bits_lo_u8 .or (c.toNat : Int) 32
        have hv1 := bits_hi_u8 .or (c.toNat : Int) 32
        have hu0 := bits_lo_u8 .or 95 32
        have hu1 := bits_hi_u8 .or 95 32
        go_wp2_with (go_at_call 97; refine (Tryz.internal_strconv_lower _ _).mono ?_; rintro e w' ⟨rfl, rfl⟩)
        all_goals exact HQ.out
    · have hkk : k = t.size := by omega
      subst hkk
      have hF : p53 acc (bs.drop t.size) = some acc := by rw [List.drop_eq_nil_of_le (by omega)]; rfl
      have HQ := Lib.hid (HS2.out acc (hdec.trans hF))
      subst ha
      clear hacc hF a0 a1 hdec
      go_wp2
      exact HQ.out
end Go.Proofs.YtbmmoclaijoofaaGreatDoor
