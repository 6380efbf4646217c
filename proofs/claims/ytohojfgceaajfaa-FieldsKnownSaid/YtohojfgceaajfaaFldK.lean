/- The contract of bytes, of a thing. -/
import Derived.Test.YtohojfgceaajfaaFldJ
namespace Go.Proofs.Ytohojfgceaajfaa
open Go.RowKit

def BytesOf (w : World) (x : It) (e : Ending) (w' : World) : Prop :=
  ∃ A c, e = .returned (.slice A (itLen x) c) ∧ Holds w' w'.heap.size A (itLen x) (itB x) ∧ itLen x ≤ c ∧ c ≤ maxLen ∧ (A = none → c = 0) ∧ Below w.heap.size w w'
set_option maxHeartbeats 400000 in
theorem bytesIt_4 (x : It) (hk : x.kind % 5 = 4) (w : World) (B : Nat) (hBw : B ≤ w.heap.size) (hok : ItOk w B x) :
    Calls Try.prog 11 #[.agg #[.int .u8 (x.kind : Int), .int .u64 (x.num : Int), .slice x.A x.n x.cap]] w fun e w' => BytesOf w x e w' := by
  have e5 : (x.kind : Int) % 5 = 4 := by omega
  obtain ⟨c0, c1, c2⟩ := it_rows w x
  have HF : Hid (BytesOf w x (.returned (.slice x.A x.n x.cap)) (w.alloc (.cells (itV x) 30))) := Lib.hid (by
    obtain ⟨h1, h2, h3, h4, h5, h6, h7⟩ := hok
    have hl : itLen x = x.n := by rw [itLen, if_pos hk]
    have hb : itB x = x.d := by rw [itB, if_pos hk]
    refine ⟨x.A, x.cap, by rw [hl], ?_, by rw [hl]; exact h4, h5, h7, below_alloc1 _ _⟩
    rw [hl, hb]
    exact (h6.below ((Below.refl B w).alloc hBw _)).more (by simp; omega))
  clear hk hok
  go_enter Try.func11, Try.ntmps11
  go_wp2_with fail
  go_ret
  exact HF.out
set_option maxHeartbeats 1000000 in
theorem bytesIt_n (x : It) (hk : x.kind % 5 ≠ 4) (hk8 : x.kind < 256) (hn : x.num < 18446744073709551616) (w : World) :
    Calls Try.prog 11 #[.agg #[.int .u8 (x.kind : Int), .int .u64 (x.num : Int), .slice x.A x.n x.cap]] w fun e w' => BytesOf w x e w' := by
  have e5 : ((x.kind : Int) % 5 == 4) = false := by rw [beq_eq_false_iff_ne]; omega
  obtain ⟨c0, c1, c2⟩ := it_rows w x
  have hl : itLen x = wd (x.kind % 5) := by rw [itLen, if_neg hk]
  have hbb : itB x = numB x.num (wd (x.kind % 5)) := by rw [itB, if_neg hk]
  have HL := Lib.hid hl
  have HBB := Lib.hid hbb
  have HW := Lib.hid (fun w => width_any x.kind hk8 hk w)
  obtain ⟨q, Q⟩ : ∃ q, Hid (q = wd (x.kind % 5)) := ⟨_, Lib.hid rfl⟩
  have hq8 : q ≤ 8 := by rw [Q.out]; exact (wd_le _).2
  have HR := Lib.hid (fun w => refBytes_any x.num q hq8 hn w)
  rw [← Q.out] at HW HL HBB
  obtain ⟨B, hB⟩ : ∃ B, B = w.heap.size := ⟨_, rfl⟩
  have HBW := Lib.hid hB
  rw [← hB] at c0 c1 c2
  clear hk hk8 hn hl hbb hB c2
  go_enter Try.func11, Try.ntmps11
  go_wp2_with fail
  rw [← HBW.out]
  have hba := below_alloc1 w (.cells (itV x) 30)
  rw [← HBW.out] at hba
  have hz1 : B < (w.alloc (.cells (itV x) 30)).heap.size := by rw [HBW.out]; simp
  obtain ⟨w1, hw1⟩ : ∃ w1, w1 = w.alloc (.cells (itV x) 30) := ⟨_, rfl⟩
  rw [← hw1] at c0 c1 hba hz1
  rw [show w.alloc (.cells #[.int .u8 (x.kind : Int), .int .u64 (x.num : Int), .slice x.A x.n x.cap] 30) = w1 from hw1.symm]
  clear hw1
  go_wp2_with fail
  go_region_held3 (fun w' => w'.cell? ⟨B, 0, none⟩ = some (.int .u8 (x.kind : Int)) ∧ w'.cell? ⟨B, 1, none⟩ = some (.int .u64 (x.num : Int))) (first | exact ⟨c0, c1⟩ | exact ⟨d0, d1⟩ | exact ⟨(hb3.cell (p := ⟨B, 0, none⟩) hz2).trans d0, (hb3.cell (p := ⟨B, 1, none⟩) hz2).trans d1⟩) (first | (go_at_call 14; refine (HW.out _).mono ?_; rintro e w2 ⟨rfl, hb2⟩; have d0 := (hb2.cell (p := ⟨B, 0, none⟩) hz1).trans c0; have d1 := (hb2.cell (p := ⟨B, 1, none⟩) hz1).trans c1; have hB2 := (hba.drew).trans (hb2.mono (show B ≤ w1.drew.heap.size from Nat.le_of_lt hz1)); have hz2 : B < w2.heap.size := Nat.lt_of_lt_of_le hz1 hb2.size) | (go_at_call 30; refine (HR.out _).mono ?_; rintro e w3 ⟨⟨v3, rfl, hown3⟩, hb3⟩))
  all_goals
    obtain ⟨A, c, rfl, hqc, hcm, hh, hA⟩ := own_slice hown3
    have hB3 := hB2.trans (hb3.mono (Nat.le_of_lt hz2))
    rw [HBW.out] at hB3
    have HF : Hid (BytesOf w x (.returned (.slice A q c)) w3) := Lib.hid ⟨A, c, by rw [HL.out], by rw [HL.out, HBB.out]; exact hh, by rw [HL.out]; exact hqc, hcm, hA, hB3⟩
    clear hown3 hh hA hB3 hb2 hb3 hB2 d0 d1 c0 c1
    go_wp2_with fail
    go_ret
    exact HF.out
theorem bytesIt_any (x : It) (w : World) (B : Nat) (hBw : B ≤ w.heap.size) (hok : ItOk w B x) :
    Calls Try.prog 11 #[.agg #[.int .u8 (x.kind : Int), .int .u64 (x.num : Int), .slice x.A x.n x.cap]] w fun e w' => BytesOf w x e w' := by
  by_cases h : x.kind % 5 = 4
  · exact bytesIt_4 x h w B hBw hok
  · exact bytesIt_n x h hok.1 hok.2.1 w
end Go.Proofs.Ytohojfgceaajfaa
