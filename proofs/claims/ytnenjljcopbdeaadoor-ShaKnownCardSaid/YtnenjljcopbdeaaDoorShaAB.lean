/- Texts of bytes, there and back; the walk of the law ShaSums. -/
import Derived.Test.YtnenjljcopbdeaaDoorShaAA
import Derived.Laws.IdiomStrings
import Derived.Lib.ConvBytes
namespace Go.Proofs.YtnenjljcopbdeaaDoor
open Go.RowKit Go.BigFrame

theorem convert_holds {P : Program} {wr : World} {B n cap : Nat} {A : Option Addr} {E src dst : TypeId} {d : Nat → Nat} (hd : ∀ i, d i < 256) (hr : Holds wr B A n d) (hA : A = none → cap = 0) (hnc : n ≤ cap)
    (hs : P.underlying src = some (.slice E)) (he : P.underlying E = some (.int .u8)) (ht : P.underlying dst = some .string) :
    (convert src dst (.slice A n cap)).run P wr = .ok (.string (strOf (txt d n))) wr := by
  cases A with
  | none =>
    have := hA rfl
    obtain rfl : n = 0 := by omega
    rw [run_convert_bytes_string wr src dst E none 0 cap hs he ht]
    simp [Conv.bytesToString, strOf, txt]
    rfl
  | some a =>
    have h := run_convert_bytes_back wr src dst E a cap (txt d n) hs he ht (fun j hj => by
      rw [txt_len] at hj
      obtain ⟨ad, e, _, hc⟩ := hr (by omega)
      cases e
      rw [hc j hj]
      have h1 : (txt d n)[j]'(by rw [txt_len]; exact hj) = UInt8.ofNat (d j) := by simp [txt]
      rw [h1, UInt8.toNat_ofNat', Nat.mod_eq_of_lt (hd j)])
    rw [txt_len] at h
    exact h
theorem bytes_of_txt {P : Program} (w : World) (E src dst : TypeId) (d : Nat → Nat) (n : Nat) (hd : ∀ i, d i < 256) (hn : n ≤ maxLen) (hs : P.underlying src = some .string) (ht : P.underlying dst = some (.slice E)) (he : P.underlying E = some (.int .u8)) :
    ∃ cap w2, n ≤ cap ∧ cap ≤ maxLen ∧ (convert src dst (.string (strOf (txt d n)))).run P w = .ok (.slice (some ⟨w.heap.size, 0, none⟩) n cap) w2 ∧ Below w.heap.size w w2 ∧ Holds w2 w2.heap.size (some ⟨w.heap.size, 0, none⟩) n d ∧ w.heap.size < w2.heap.size := by
  have h := run_bytes_of_string (P := P) w src dst E (strOf (txt d n)) hs ht he
  have hz : (strOf (txt d n)).size = n := by rw [strOf_size, txt_len]
  rw [hz] at h
  refine ⟨_, _, grownCap_ge w n 0 E, grownCap_le_maxLen w n 0 E hn, h, ((Below.refl _ _).drew).alloc (Nat.le_refl _) _, fun h0 => ⟨_, rfl, by simp, fun j hj => ?_⟩, by simp⟩
  have hadd : (⟨w.heap.size, 0, none⟩ : Addr).add j = ⟨w.heap.size, j, none⟩ := by unfold Addr.add; split <;> simp_all
  rw [hadd]
  refine (cell_of_row _ w.heap.size j _ _ _ (heap_alloc_new w.drew _)).trans ?_
  unfold bytesRow
  have h1 : (strOf (txt d n)).data = (txt d n).toArray := rfl
  rw [h1, Array.getElem?_append_left (by simp [txt_len]; exact hj)]
  simp [txt, hj, Nat.mod_eq_of_lt (hd j)]

theorem shaSums_long (A : Option Addr) (n cap : Nat) (w : World) (ht : Tabs w) (h5 : 3000 < n) :
    Calls Tryd.prog 5 #[.slice A n cap] w fun e w' => e = .returned (.bool true) ∧ Below w.heap.size w w' := by
  have HT := Lib.hid ht
  clear ht
  go_enter Tryd.func5, Tryd.ntmps5
  go_wp2_with fail
  refine (works_any _ HT.out).mono ?_
  rintro e w4 ⟨rfl, hb4⟩
  go_wp2_with fail
  go_ret
  exact ⟨rfl, hb4⟩

set_option maxRecDepth 100000 in
set_option maxHeartbeats 1000000 in
theorem shaSums_short (d : Nat → Nat) (hd : ∀ i, d i < 256) (A : Option Addr) (n cap : Nat) (w : World) (ht : Tabs w) (hnc : n ≤ cap) (hcm : cap ≤ maxLen) (hr : Holds w w.heap.size A n d) (hA : A = none → cap = 0) (h5 : ¬ 3000 < n) :
    Calls Tryd.prog 5 #[.slice A n cap] w fun e w' => e = .returned (.bool true) ∧ Below w.heap.size w w' := by
  have HT := Lib.hid ht
  have HD := Lib.hid hd
  have HR := Lib.hid hr
  have HA := Lib.hid hA
  have HNC := Lib.hid hnc
  have hcv := convert_holds (P := Tryd.prog) (src := 23) (dst := 9) hd hr hA hnc Tryd.underlying23 Tryd.underlying5 Tryd.underlying9
  obtain ⟨cap2, w2, hn2, hc2, hcb, hb2, hr2, hz2⟩ := bytes_of_txt (P := Tryd.prog) w 5 9 23 d n hd (by omega) Tryd.underlying9 Tryd.underlying23 Tryd.underlying5
  obtain ⟨s, SS⟩ : ∃ s, Hid (s = strOf (txt d n)) := ⟨_, Lib.hid rfl⟩
  rw [← SS.out] at hcv hcb
  obtain ⟨r, R⟩ : ∃ r, Hid (r = sumB d n) := ⟨_, Lib.hid rfl⟩
  obtain ⟨g, G⟩ : ∃ g, Hid (g = w.heap.size) := ⟨_, Lib.hid rfl⟩
  rw [← G.out] at hcb hr2
  have HR2 := Lib.hid hr2
  have HN2 := Lib.hid hn2
  have HC2 := Lib.hid hc2
  have HN : Hid ((some ⟨g, 0, none⟩ : Option Addr) = none → cap2 = 0) := Lib.hid fun h => by cases h
  have HS1 := Lib.hid (fun w ht hr => sum_any d hd (some ⟨g, 0, none⟩) n cap2 hn2 hc2 w ht hr HN.out)
  have HS2 := Lib.hid (fun w hr => refSum_any d hd A n cap hnc w hr hA h5)
  rw [← R.out] at HS1 HS2
  have heq : ∀ wx : World, (Op.equalIn 10000 33 (.agg (digA r 32)) (.agg (digA r 32))).run Tryd.prog wx = .ok true wx := fun wx => (run_equal_dig wx _ _).trans (by rw [sameB_of 32 r r (fun i _ => rfl)])
  clear ht hd hr hA hnc hcm hr2 hn2 hc2 R
  go_enter Tryd.func5, Tryd.ntmps5
  go_wp2_with fail
  clear hcv hcb
  refine (HS1.out _ (HT.out.below hb2) HR2.out).mono ?_
  rintro e w3 ⟨rfl, hb3⟩
  have hB3 := below_step hb2 hb3 hb2.size
  go_wp2_with fail
  refine (HS2.out _ ((HR.out.below hB3).more hB3.size)).mono ?_
  rintro e w4 ⟨rfl, hb4⟩
  have hB4 := below_step hB3 hb4 hB3.size
  have hcv1 := convert_holds (P := Tryd.prog) (src := 23) (dst := 9) HD.out ((HR2.out.below hb3).below (hb4.mono hb3.size)) HN.out HN2.out Tryd.underlying23 Tryd.underlying5 Tryd.underlying9
  have hcv2 := convert_holds (P := Tryd.prog) (src := 23) (dst := 9) HD.out (HR.out.below hB4) HA.out HNC.out Tryd.underlying23 Tryd.underlying5 Tryd.underlying9
  rw [← SS.out] at hcv1 hcv2
  go_wp2_with fail
  refine (works_any _ (HT.out.below hB4)).mono ?_
  rintro e w5 ⟨rfl, hb5⟩
  go_wp2_with fail
  go_ret
  exact ⟨rfl, below_step hB4 hb5 hB4.size⟩
theorem shaSums_walk (d : Nat → Nat) (A : Option Addr) (n cap : Nat) (w : World) (ht : Tabs w) (hd : ∀ i, d i < 256) (hnc : n ≤ cap) (hcm : cap ≤ maxLen) (hr : Holds w w.heap.size A n d) (hA : A = none → cap = 0) :
    Calls Tryd.prog 5 #[.slice A n cap] w fun e w' => e = .returned (.bool true) ∧ Below w.heap.size w w' := by
  by_cases h5 : 3000 < n
  · exact shaSums_long A n cap w ht h5
  · exact shaSums_short d hd A n cap w ht hnc hcm hr hA h5
end Go.Proofs.YtnenjljcopbdeaaDoor
