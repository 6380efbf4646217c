/- The walk of the law VersionKnown. -/
import Derived.Test.YtijepjoklmblhaaDoorVerPe
import Derived.Test.YtijepjoklmblhaaDoorVerZc
namespace Go.Proofs.YtijepjoklmblhaaDoor
open Go.RowKit Go.BigFrame
open Ver (prs cmpV BL)

theorem KeepW.alloc {W1 w' : World} {B : Nat} (h : KeepW W1 B w') (o : Obj) : KeepW W1 B (w'.alloc o) := h.step ((Below.refl _ _).alloc (Nat.le_refl _) o)
theorem KeepW.back {W1 w2 w' : World} {B : Nat} (h : KeepW W1 B w2) (h2 : KeepW w2 w2.heap.size w') : KeepW W1 B w' := h.step h2.1
def kL : List ByteArray := [⟨#[]⟩, ⟨#[48]⟩, ⟨#[49]⟩, ⟨#[48, 49]⟩, ⟨#[48, 48]⟩, ⟨#[49, 46]⟩, ⟨#[46, 49]⟩, ⟨#[49, 46, 46, 50]⟩, ⟨#[49, 46, 50]⟩, ⟨#[49, 46, 50, 46, 48]⟩, ⟨#[49, 46, 49, 48]⟩, ⟨#[49, 46, 50, 45, 114, 99, 49]⟩, ⟨#[49, 46, 50, 45, 114, 99, 49, 48]⟩, ⟨#[49, 46, 50, 45, 114, 99]⟩, ⟨#[49, 46, 50, 45]⟩, ⟨#[49, 46, 50, 45, 65]⟩, ⟨#[49, 46, 50, 45, 97, 45, 98]⟩, ⟨#[45, 97]⟩, ⟨#[49, 46, 50, 46, 51, 46, 52, 46, 53, 46, 54, 46, 55, 46, 56]⟩, ⟨#[49, 46, 50, 46, 51, 46, 52, 46, 53, 46, 54, 46, 55, 46, 56, 46, 57]⟩, ⟨#[57, 57, 57, 57, 57, 57, 57, 57, 57]⟩, ⟨#[49, 48, 48, 48, 48, 48, 48, 48, 48, 48]⟩, ⟨#[57, 57, 57, 57, 57, 57, 57, 57, 57, 57, 57, 57, 57, 57, 57, 57, 57, 57, 57, 57, 57, 57]⟩, ⟨#[43, 49]⟩, ⟨#[49, 101, 51]⟩, ⟨#[32, 49]⟩, ⟨#[49, 45, 97, 98, 99, 100, 101, 102, 103, 104, 105, 106, 107, 108, 109, 110, 111, 112]⟩, ⟨#[49, 45, 97, 98, 99, 100, 101, 102, 103, 104, 105, 106, 107, 108, 109, 110, 111, 112, 113]⟩, ⟨#[49, 45, 48]⟩, ⟨#[49, 45, 57, 122]⟩, ⟨#[49, 46, 217, 161]⟩, ⟨#[49, 45, 195, 169]⟩, ⟨#[50]⟩, ⟨#[49, 48]⟩]
theorem kL_len : kL.length = 34 := rfl
theorem kL_small : ∀ k, k < 34 → (kL.getD k ⟨#[]⟩).size ≤ 100 := by
  have h : (List.range 34).all (fun k => decide ((kL.getD k ⟨#[]⟩).size ≤ 100)) = true := by decide +kernel
  intro k hk
  simpa using List.all_eq_true.1 h k (List.mem_range.2 hk)
theorem known_row (w : World) : ∃ W1 g, W1 = w.alloc (.cells #[.string ⟨#[]⟩, .string ⟨#[48]⟩, .string ⟨#[49]⟩, .string ⟨#[48, 49]⟩, .string ⟨#[48, 48]⟩, .string ⟨#[49, 46]⟩, .string ⟨#[46, 49]⟩, .string ⟨#[49, 46, 46, 50]⟩, .string ⟨#[49, 46, 50]⟩, .string ⟨#[49, 46, 50, 46, 48]⟩, .string ⟨#[49, 46, 49, 48]⟩, .string ⟨#[49, 46, 50, 45, 114, 99, 49]⟩, .string ⟨#[49, 46, 50, 45, 114, 99, 49, 48]⟩, .string ⟨#[49, 46, 50, 45, 114, 99]⟩, .string ⟨#[49, 46, 50, 45]⟩, .string ⟨#[49, 46, 50, 45, 65]⟩, .string ⟨#[49, 46, 50, 45, 97, 45, 98]⟩, .string ⟨#[45, 97]⟩, .string ⟨#[49, 46, 50, 46, 51, 46, 52, 46, 53, 46, 54, 46, 55, 46, 56]⟩, .string ⟨#[49, 46, 50, 46, 51, 46, 52, 46, 53, 46, 54, 46, 55, 46, 56, 46, 57]⟩, .string ⟨#[57, 57, 57, 57, 57, 57, 57, 57, 57]⟩, .string ⟨#[49, 48, 48, 48, 48, 48, 48, 48, 48, 48]⟩, .string ⟨#[57, 57, 57, 57, 57, 57, 57, 57, 57, 57, 57, 57, 57, 57, 57, 57, 57, 57, 57, 57, 57, 57]⟩, .string ⟨#[43, 49]⟩, .string ⟨#[49, 101, 51]⟩, .string ⟨#[32, 49]⟩, .string ⟨#[49, 45, 97, 98, 99, 100, 101, 102, 103, 104, 105, 106, 107, 108, 109, 110, 111, 112]⟩, .string ⟨#[49, 45, 97, 98, 99, 100, 101, 102, 103, 104, 105, 106, 107, 108, 109, 110, 111, 112, 113]⟩, .string ⟨#[49, 45, 48]⟩, .string ⟨#[49, 45, 57, 122]⟩, .string ⟨#[49, 46, 217, 161]⟩, .string ⟨#[49, 45, 195, 169]⟩, .string ⟨#[50]⟩, .string ⟨#[49, 48]⟩] 9) ∧ g = w.heap.size ∧ (∀ k, k < 34 → W1.cell? ⟨g, k, none⟩ = some (.string (kL.getD k ⟨#[]⟩))) ∧ Below g w W1 ∧ g < W1.heap.size := by
  obtain ⟨W1, hW1, hg, hb, hz⟩ := row_new w (.cells #[.string ⟨#[]⟩, .string ⟨#[48]⟩, .string ⟨#[49]⟩, .string ⟨#[48, 49]⟩, .string ⟨#[48, 48]⟩, .string ⟨#[49, 46]⟩, .string ⟨#[46, 49]⟩, .string ⟨#[49, 46, 46, 50]⟩, .string ⟨#[49, 46, 50]⟩, .string ⟨#[49, 46, 50, 46, 48]⟩, .string ⟨#[49, 46, 49, 48]⟩, .string ⟨#[49, 46, 50, 45, 114, 99, 49]⟩, .string ⟨#[49, 46, 50, 45, 114, 99, 49, 48]⟩, .string ⟨#[49, 46, 50, 45, 114, 99]⟩, .string ⟨#[49, 46, 50, 45]⟩, .string ⟨#[49, 46, 50, 45, 65]⟩, .string ⟨#[49, 46, 50, 45, 97, 45, 98]⟩, .string ⟨#[45, 97]⟩, .string ⟨#[49, 46, 50, 46, 51, 46, 52, 46, 53, 46, 54, 46, 55, 46, 56]⟩, .string ⟨#[49, 46, 50, 46, 51, 46, 52, 46, 53, 46, 54, 46, 55, 46, 56, 46, 57]⟩, .string ⟨#[57, 57, 57, 57, 57, 57, 57, 57, 57]⟩, .string ⟨#[49, 48, 48, 48, 48, 48, 48, 48, 48, 48]⟩, .string ⟨#[57, 57, 57, 57, 57, 57, 57, 57, 57, 57, 57, 57, 57, 57, 57, 57, 57, 57, 57, 57, 57, 57]⟩, .string ⟨#[43, 49]⟩, .string ⟨#[49, 101, 51]⟩, .string ⟨#[32, 49]⟩, .string ⟨#[49, 45, 97, 98, 99, 100, 101, 102, 103, 104, 105, 106, 107, 108, 109, 110, 111, 112]⟩, .string ⟨#[49, 45, 97, 98, 99, 100, 101, 102, 103, 104, 105, 106, 107, 108, 109, 110, 111, 112, 113]⟩, .string ⟨#[49, 45, 48]⟩, .string ⟨#[49, 45, 57, 122]⟩, .string ⟨#[49, 46, 217, 161]⟩, .string ⟨#[49, 45, 195, 169]⟩, .string ⟨#[50]⟩, .string ⟨#[49, 48]⟩] 9)
  refine ⟨W1, _, hW1, rfl, fun k hk => ?_, hb, by omega⟩
  have h := strs_get kL k hk
  have hadd : (⟨w.heap.size, 0, none⟩ : Addr).add k = ⟨w.heap.size, k, none⟩ := by unfold Addr.add; split <;> simp_all
  rw [← hadd]
  refine row_cells hg k _ ?_
  rw [← h]
  show (#[.string ⟨#[]⟩, .string ⟨#[48]⟩, .string ⟨#[49]⟩, .string ⟨#[48, 49]⟩, .string ⟨#[48, 48]⟩, .string ⟨#[49, 46]⟩, .string ⟨#[46, 49]⟩, .string ⟨#[49, 46, 46, 50]⟩, .string ⟨#[49, 46, 50]⟩, .string ⟨#[49, 46, 50, 46, 48]⟩, .string ⟨#[49, 46, 49, 48]⟩, .string ⟨#[49, 46, 50, 45, 114, 99, 49]⟩, .string ⟨#[49, 46, 50, 45, 114, 99, 49, 48]⟩, .string ⟨#[49, 46, 50, 45, 114, 99]⟩, .string ⟨#[49, 46, 50, 45]⟩, .string ⟨#[49, 46, 50, 45, 65]⟩, .string ⟨#[49, 46, 50, 45, 97, 45, 98]⟩, .string ⟨#[45, 97]⟩, .string ⟨#[49, 46, 50, 46, 51, 46, 52, 46, 53, 46, 54, 46, 55, 46, 56]⟩, .string ⟨#[49, 46, 50, 46, 51, 46, 52, 46, 53, 46, 54, 46, 55, 46, 56, 46, 57]⟩, .string ⟨#[57, 57, 57, 57, 57, 57, 57, 57, 57]⟩, .string ⟨#[49, 48, 48, 48, 48, 48, 48, 48, 48, 48]⟩, .string ⟨#[57, 57, 57, 57, 57, 57, 57, 57, 57, 57, 57, 57, 57, 57, 57, 57, 57, 57, 57, 57, 57, 57]⟩, .string ⟨#[43, 49]⟩, .string ⟨#[49, 101, 51]⟩, .string ⟨#[32, 49]⟩, .string ⟨#[49, 45, 97, 98, 99, 100, 101, 102, 103, 104, 105, 106, 107, 108, 109, 110, 111, 112]⟩, .string ⟨#[49, 45, 97, 98, 99, 100, 101, 102, 103, 104, 105, 106, 107, 108, 109, 110, 111, 112, 113]⟩, .string ⟨#[49, 45, 48]⟩, .string ⟨#[49, 45, 57, 122]⟩, .string ⟨#[49, 46, 217, 161]⟩, .string ⟨#[49, 45, 195, 169]⟩, .string ⟨#[50]⟩, .string ⟨#[49, 48]⟩] : Array Value)[k]? = (strs kL)[k]?
  exact (Array.getElem?_toList).symm
theorem refParse_one (s : ByteArray) (w : World) (hs : s.size ≤ 1000000) : Calls Tryd.prog 13 #[.string s] w fun e w' => ∃ (A : Option Addr) (cap : Nat) (xs : List Int) (t : ByteArray) (ev : Int), e = .returned (.tuple #[.agg #[.slice A xs.length cap, .string t], .int .i64 ev]) ∧ Reads w' w'.heap.size (.slice A xs.length cap) (ints xs) ∧ (ev = 0 ∨ ev = 130) ∧ Below w.heap.size w w' ∧ (∀ ad, A = some ad → w.heap.size ≤ ad.block) := by
  cases ho : okS s
  · refine (refParse_no s w hs ho).mono ?_
    rintro e w1 ⟨rfl, hb⟩
    exact ⟨none, 0, [], ⟨#[]⟩, 130, rfl, Reads.nil _ _, .inr rfl, hb, fun ad h => by cases h⟩
  · refine (refParse_yes s w hs ho).mono ?_
    rintro e w1 ⟨v, t, rfl, hR, _, _, hb, ⟨A', n', c', e', hav⟩⟩
    obtain ⟨A, ca, rfl⟩ := hR.form
    exact ⟨A, ca, _, t, 0, rfl, hR, .inl rfl, hb, fun ad h => (hav ad (by cases e'; exact h)).1⟩
theorem reads_row {w : World} {g : Nat} {T : TypeId} (cs : Array Value) (xs : List Value) (hg : w.heap[g]? = some (.cells cs T (0, 0))) (h : cs.toList = xs) (hn : xs.length ≤ 1000) : Reads w w.heap.size (.slice (some ⟨g, 0, none⟩) xs.length xs.length) xs :=
  ⟨_, _, rfl, Nat.le_refl _, by unfold maxLen; omega, (fun h => by cases h), fun _ => ⟨_, rfl, block_lt hg, fun j u hu => row_cells hg j u (by rw [← hu, ← h]; simp)⟩⟩
theorem cell_grown {w w' : World} {row : Option Nat} {b j : Nat} {v : Value} (h : w.cell? ⟨b, j, none⟩ = some v) (hg : w.grownBy w' row) (hne : some b ≠ row) : w'.cell? ⟨b, j, none⟩ = some v := by
  have hb := hg.block b (block_lt_of_cell h) hne
  unfold World.cell? at h ⊢
  rw [hb]; exact h
theorem make_nine (w : World) : (Instr.makeSlice 22 (.int .i64 9) (.int .i64 9)).run Tryd.prog w = .ok (.slice (some ⟨w.heap.size, 0, none⟩) 9 9) (w.alloc (.cells #[.int .i64 0, .int .i64 0, .int .i64 0, .int .i64 0, .int .i64 0, .int .i64 0, .int .i64 0, .int .i64 0, .int .i64 0] 3)) := by
  have h := run_make_row' (P := Tryd.prog) 22 3 (.int .i64 0) 8 Tryd.underlying22 (by kernel_rfl) rfl .i64 .i64 9 (by decide) (by decide) w
  rw [show madeCells #[Value.int .i64 0] 9 = #[.int .i64 0, .int .i64 0, .int .i64 0, .int .i64 0, .int .i64 0, .int .i64 0, .int .i64 0, .int .i64 0, .int .i64 0] from by first | kernel_rfl | (unfold madeCells; kernel_rfl) | (simp [madeCells]; rfl) | (apply Array.ext' ; simp [madeCells])] at h
  exact h
set_option maxRecDepth 100000 in
set_option maxHeartbeats 4000000 in
theorem versionKnown_walk (w : World) (htab : TabW w) :
    Calls Tryd.prog 5 #[] w fun e w' => e = .returned (.bool true) ∧ Below w.heap.size w w' := by
  obtain ⟨j0, hj, hz0, hz1, hz2⟩ := info_parts infoStr
  have HJ := Lib.hid hj
  have HY0 := Lib.hid hz0
  have HY1 := Lib.hid hz1
  have HY2 := Lib.hid hz2
  clear hj hz0 hz1 hz2
  obtain ⟨W1, g, hW1, hg, hcl, hb1, hgl⟩ := known_row w
  have HT1 := Lib.hid (htab.below (hg ▸ hb1))
  have HW1 := Lib.hid hW1
  have HG := Lib.hid hg
  have HC := Lib.hid hcl
  have HB1 := Lib.hid hb1
  clear hW1 hg hcl hb1 htab
  go_enter Tryd.func5, Tryd.ntmps5
  go_upto_region 2 with (fail)
  rw [← HW1.out, ← HG.out]
  clear HW1
  go_wp2
  go_loopw [2, 3] (fun av i wr => ∃ (k : Nat) (o : List ByteArray), k ≤ 34 ∧ i = .int .i64 k ∧ o.length ≤ k ∧ wr.ownsRow W1.heap.size 9 1 av o.length (strs o) ∧ KeepW W1 W1.heap.size wr) (fun _ i _ => 34 - (intOf i).toNat)
  case atStart => exact ⟨0, [], by omega, rfl, Nat.le_refl _, World.ownsRow_nil _ _ _ _, KeepW.start (Nat.le_refl _)⟩
  case round =>
    obtain ⟨k, o, hk, rfl, ho, hown, hkw⟩ := hrel
    by_cases hlt : k < 34
    · have hcs := (hkw.1.cell (p := ⟨g, k, none⟩) hgl).trans (HC.out k hlt)
      have hsz : (kL.getD k ⟨#[]⟩).size ≤ 100 := kL_small k hlt
      obtain ⟨s, hs⟩ : ∃ s, s = kL.getD k ⟨#[]⟩ := ⟨_, rfl⟩
      rw [← hs] at hcs hsz
      clear hs
      go_wp2_with fail
      refine (refParse_one s _ (by omega)).mono ?_
      rintro e w1 ⟨A, ca, xs, t, ev, rfl, hRv, hev, hba, hav⟩
      go_upto_region 7 with (fail)
      obtain ⟨w2, hw2, hg2, hb12, hz2, _⟩ := row_at w1 w1 (.cells #[.slice A xs.length ca, .string t] 30) (Below.refl _ _)
      rw [← hw2]
      have HZ2 := Lib.hid hz2
      clear hw2 hz2
      obtain ⟨hd0, hd1, _, _⟩ := cell_two hg2
      go_upto_region 8 with (fail)
      obtain ⟨w3, hw3, hg3, hb23, hz3, _⟩ := row_at w2 w2 (.cells #[.slice A xs.length ca, .string t] 24) (Below.refl _ _)
      rw [← hw3]
      clear hw3
      have hb3 : Below wr.heap.size wr w3 := below_step (below_step hba hb12 hba.size) hb23 (below_step hba hb12 hba.size).size
      have hk3 := hkw.step hb3
      have hz2' : w2.heap.size < w3.heap.size := by omega
      clear hz3
      have hgz : g < w3.heap.size := Nat.lt_of_lt_of_le hgl hk3.2
      have hRx := (hRv.below (below_step hb12 hb23 hb12.size)).more (below_step hb12 hb23 hb12.size).size
      obtain ⟨he0, he1, _, _⟩ := cell_two hg3
      have hcs3 := (hk3.1.cell (p := ⟨g, k, none⟩) hgl).trans ((hkw.1.cell (p := ⟨g, k, none⟩) hgl).symm.trans hcs)
      have hT3 := HT1.out.below hk3.1
      have hkk : ∀ w', KeepW w3 w3.heap.size w' → (w'.cell? ⟨g, k, none⟩ = some (.string s) ∧ w'.cell? ⟨w2.heap.size, 0, none⟩ = some (.slice A xs.length ca) ∧ w'.cell? ⟨w2.heap.size, 1, none⟩ = some (.string t)) ∧ KeepW w3 w3.heap.size w' := fun w' h => ⟨⟨(h.1.cell (p := ⟨g, k, none⟩) hgz).trans hcs3, (h.1.cell (p := ⟨w2.heap.size, 0, none⟩) hz2').trans he0, (h.1.cell (p := ⟨w2.heap.size, 1, none⟩) hz2').trans he1⟩, h⟩
      have hvp : ∀ w', KeepW w3 w3.heap.size w' → Calls Tryd.prog 14 #[.string s] w' fun e w2 => e = .returned (.bool true) ∧ KeepW w3 w3.heap.size w2 := fun w' h => h.calls (versionParse_walk s w' (by unfold maxLen; omega))
      have hvb : ∀ w', KeepW w3 w3.heap.size w' → Calls Tryd.prog 4 #[.string s, .agg #[.slice A xs.length ca, .string t]] w' fun e w2 => e = .returned (.bool true) ∧ KeepW w3 w3.heap.size w2 := fun w' h => h.calls (versionBack_walk s _ xs t w' (hT3.below h.1) (by unfold maxLen; omega) ((hRx.below h.1).more h.2))
      have hvq : ∀ w', KeepW w3 w3.heap.size w' → Calls Tryd.prog 3 #[.agg #[.slice A xs.length ca, .string t]] w' fun e w2 => e = .returned (.bool true) ∧ KeepW w3 w3.heap.size w2 := fun w' h => h.calls (versionPrint_walk _ xs t w' (hT3.below h.1) ((hRx.below h.1).more h.2))
      have hvs : ∀ w', KeepW w3 w3.heap.size w' → ∀ (a : Addr) (x y : ByteArray), Reads w' w'.heap.size (.slice (some a) 3 3) (strs [x, s, y]) → Calls Tryd.prog 15 #[.slice (some a) 3 3] w' fun e w2 => e = .returned (.bool true) ∧ KeepW w3 w3.heap.size w2 := fun w' h a x y hr => h.calls (versionSort_walk (some a) 3 [x, s, y] w' hr)
      have HKK := Lib.hid hkk
      have HVP := Lib.hid hvp
      have HVB := Lib.hid hvb
      have HVQ := Lib.hid hvq
      have HVS := Lib.hid hvs
      have HRX := Lib.hid hRx
      have HT3 := Lib.hid hT3
      have hown3 := own_below hown hb3 (Nat.le_refl _)
      have HOL := Lib.hid (fun b (e : u2.ownBlock = some b) => (hown.lt b e).2)
      have hlow : wr.heap.size ≤ w2.heap.size := Nat.le_trans hba.size hb12.size
      have HLOW := Lib.hid hlow
      have HAV := Lib.hid hav
      have HS := Lib.hid ((hkw.1.cell (p := ⟨g, k, none⟩) hgl).symm.trans hcs)
      have HZ23 := Lib.hid hz2'
      have hk33 := KeepW.start (Nat.le_refl w3.heap.size)
      have HGZ := Lib.hid hgz
      clear hkk hvp hvb hvq hvs hRx hT3 he0 he1 hd0 hd1 hcs hcs3 hb3 hb12 hb23 hba hg2 hg3 hRv hown hkw hgz hlow hav hz2'
      obtain ⟨⟨hcs, hc0, hc1⟩, _⟩ := HKK.out _ hk33
      have hik : (0 : Int) ≤ (k : Int) := by omega
      have hik2 : (k : Int) < 34 := by omega
      go_region_held3 (fun w' => (w'.cell? ⟨g, k, none⟩ = some (.string s) ∧ w'.cell? ⟨w2.heap.size, 0, none⟩ = some (.slice A xs.length ca) ∧ w'.cell? ⟨w2.heap.size, 1, none⟩ = some (.string t)) ∧ KeepW w3 w3.heap.size w') (first | exact HKK.out _ (by first | assumption | exact KeepW.drew (by assumption) | exact KeepW.alloc (by assumption) _ | exact KeepW.drew (KeepW.alloc (by assumption) _) | exact KeepW.alloc (KeepW.drew (by assumption)) _ | exact KeepW.drew (KeepW.alloc (KeepW.drew (by assumption)) _)) | go_keep) (first | (go_at_call 14; refine (HVP.out _ (by first | assumption | exact KeepW.drew (by assumption) | exact KeepW.alloc (by assumption) _ | exact KeepW.drew (KeepW.alloc (by assumption) _) | exact KeepW.alloc (KeepW.drew (by assumption)) _ | exact KeepW.drew (KeepW.alloc (KeepW.drew (by assumption)) _))).mono ?_; rintro e w4 ⟨rfl, hk4⟩) | (go_at_call 4; refine (HVB.out _ (by first | assumption | exact KeepW.drew (by assumption) | exact KeepW.alloc (by assumption) _ | exact KeepW.drew (KeepW.alloc (by assumption) _) | exact KeepW.alloc (KeepW.drew (by assumption)) _ | exact KeepW.drew (KeepW.alloc (KeepW.drew (by assumption)) _))).mono ?_; rintro e w5 ⟨rfl, hk5⟩) | (go_at_call 3; refine (HVQ.out _ (by first | assumption | exact KeepW.drew (by assumption) | exact KeepW.alloc (by assumption) _ | exact KeepW.drew (KeepW.alloc (by assumption) _) | exact KeepW.alloc (KeepW.drew (by assumption)) _ | exact KeepW.drew (KeepW.alloc (KeepW.drew (by assumption)) _))).mono ?_; rintro e w6 ⟨rfl, hk6⟩) | (go_at_call 15; refine (HVS.out _ (by first | assumption | exact KeepW.drew (by assumption) | exact KeepW.alloc (by assumption) _ | exact KeepW.drew (KeepW.alloc (by assumption) _) | exact KeepW.alloc (KeepW.drew (by assumption)) _ | exact KeepW.drew (KeepW.alloc (KeepW.drew (by assumption)) _)) _ ⟨#[51]⟩ ⟨#[49]⟩ (by first | exact reads_new _ #[.string ⟨#[51]⟩, .string s, .string ⟨#[49]⟩] 9 (strs [⟨#[51]⟩, s, ⟨#[49]⟩]) rfl (by simp [strs]))).mono ?_; rintro e w7 ⟨rfl, hk7⟩))
      all_goals
        go_upto_region 10 with (fail)
        obtain ⟨⟨_, hc0', hc1'⟩, _⟩ := HKK.out _ hk7
        have hown7 := own_below hown3 hk7.1 (Nat.le_refl _)
        have hRx7 := (HRX.out.below hk7.1).more hk7.2
        have hk17 := hk3.back hk7
        have hz27 : w2.heap.size < w7.heap.size := Nat.lt_of_lt_of_le HZ23.out hk7.2
        clear hk4 hk5 hk6 hk33 hcs hc0 hc1 hown3 hik hik2 HKK HVP HVB HVQ HVS HRX HT3
        rcases hev with rfl | rfl
        · have hne : some w2.heap.size ≠ u2.ownBlock := fun e => by have := HOL.out _ e.symm; have := HLOW.out; omega
          have haw : Away (.slice A xs.length ca) u2.ownBlock := fun b hb e => by
            have h1 := HOL.out b e
            cases A with
            | none => cases hb
            | some ad => cases hb; have := HAV.out ad rfl; omega
          have HNE := Lib.hid hne
          have HAW := Lib.hid haw
          have HOWN7 := Lib.hid hown7
          clear hne haw HOL HLOW HAV
          obtain ⟨Ap, cap, rfl⟩ := own_form hown7
          have hz17 : W1.heap.size ≤ w7.heap.size := hk17.2
          have hc0a := hc0'
          have hc1a := hc1'
          have HC0 := Lib.hid hc0'
          have HC1 := Lib.hid hc1'
          have HRX7 := Lib.hid hRx7
          have HZ27 := Lib.hid hz27
          clear hc0' hc1' hRx7 hz27 hc0a hc1a hk7 hown7
          go_upto_region 11 with (fail)
          obtain ⟨⟨hcs, _, _⟩, _⟩ : (w7.cell? ⟨g, k, none⟩ = some (.string s) ∧ True ∧ True) ∧ True := ⟨⟨(hk17.1.cell (p := ⟨g, k, none⟩) hgl).trans HS.out, trivial, trivial⟩, trivial⟩
          go_wp2_with (at_builtin; refine wpList_append_own _ rfl _ _ 38 rfl W1.heap.size 9 j0 (.string ⟨#[]⟩) 1 16 Tryd.underlying38 HJ.out HY0.out HY1.out HY2.out rfl (by decide) _ _ _ rfl (HOWN7.out.alloc _) ⟨w7.heap.size, 0, none⟩ 1 1 [.string s] rfl rfl ?c1 ?c2 ?c3 ?c4 ?c5 ?_)
          case c1 => exact cell_one_at _ _ _ _ (by first | rfl | simp)
          case c2 => exact fun u hu => by rw [List.mem_singleton] at hu; rw [hu]; rfl
          case c3 => unfold maxLen; omega
          case c4 => omega
          case c5 => simp; omega
          intro v5 W5 hown5 hgrow5 _
          have hk5 : KeepW W1 W1.heap.size W5 := ⟨(hk17.1.alloc hz17 (.cells #[.string s] 9)).grown hgrow5 (by simp; omega) (fun b e => (HOWN7.out.lt b e).1), Nat.le_trans hz17 (Nat.le_trans (by simp) hgrow5.size)⟩
          have hba7 : Below w7.heap.size w7 (w7.alloc (.cells #[.string s] 9)) := (Below.refl _ _).alloc (Nat.le_refl _) _
          have HX0 := Lib.hid (cell_grown ((hba7.cell (p := ⟨w2.heap.size, 0, none⟩) HZ27.out).trans HC0.out) hgrow5 HNE.out)
          have HX1 := Lib.hid (cell_grown ((hba7.cell (p := ⟨w2.heap.size, 1, none⟩) HZ27.out).trans HC1.out) hgrow5 HNE.out)
          have HRX5 := Lib.hid (((HRX7.out.below hba7).more hba7.size).grown hgrow5 HAW.out)
          have H25 := Lib.hid (Nat.lt_of_lt_of_le HZ27.out (Nat.le_trans hba7.size hgrow5.size))
          rw [← strs_snoc2] at hown5
          have HLEN : (o ++ [s]).length ≤ k + 1 := by simp; omega
          have hown5 : W5.ownsRow W1.heap.size 9 1 v5 (o ++ [s]).length (strs (o ++ [s])) := by rw [List.length_append]; exact hown5
          clear hcs hgrow5 hba7 hz17 hk17 HOWN7 HNE HAW HC0 HC1 HRX7 HZ27
          go_wp2
          go_loopw [7] (fun kk wq => ∃ q : Nat, q ≤ 34 ∧ kk = .int .i64 q ∧ KeepW W5 W5.heap.size wq) (fun kk _ => 34 - (intOf kk).toNat)
          case atStart => exact ⟨0, by omega, rfl, KeepW.start (Nat.le_refl _)⟩
          case round =>
            obtain ⟨q, hq, rfl, hkq⟩ := hrel
            by_cases hqt : q < 34
            · have hk1q := hk5.back hkq
              have hgc2 := (hk1q.1.cell (p := ⟨g, q, none⟩) hgl).trans (HC.out q hqt)
              have hsz2 := kL_small q hqt
              obtain ⟨s2, hs2⟩ : ∃ s2, s2 = kL.getD q ⟨#[]⟩ := ⟨_, rfl⟩
              rw [← hs2] at hgc2 hsz2
              clear hs2
              go_wp2_with fail
              refine (refParse_one s2 _ (by omega)).mono ?_
              rintro e wa ⟨A2, ca2, ys, t2, ev2, rfl, hRy, _, hba, _⟩
              go_upto_region 16 with (fail)
              obtain ⟨wb, hwb, hgb, hbab, hzb, _⟩ := row_at wa wa (.cells #[.slice A2 ys.length ca2, .string t2] 30) (Below.refl _ _)
              rw [← hwb]
              have HZB := Lib.hid hzb
              clear hwb hzb
              obtain ⟨hp0, hp1, _, _⟩ := cell_two hgb
              go_upto_region 17 with (fail)
              obtain ⟨wc, hwc, hgc, hbbc, hzc, _⟩ := row_at wb wb (.cells #[.slice A2 ys.length ca2, .string t2] 24) (Below.refl _ _)
              rw [← hwc]
              clear hwc
              obtain ⟨hy0, hy1, _, _⟩ := cell_two hgc
              have hkc := hkq.step (below_step (below_step hba hbab hba.size) hbbc (below_step hba hbab hba.size).size)
              have hk1c := hk5.back hkc
              have hbz : wb.heap.size < wc.heap.size := by omega
              have hgzc : g < wc.heap.size := Nat.lt_of_lt_of_le hgl hk1c.2
              have hxz : w2.heap.size < wc.heap.size := Nat.lt_of_lt_of_le H25.out hkc.2
              clear hzc
              have hx0 := (hkc.1.cell (p := ⟨w2.heap.size, 0, none⟩) H25.out).trans HX0.out
              have hx1 := (hkc.1.cell (p := ⟨w2.heap.size, 1, none⟩) H25.out).trans HX1.out
              have hl0 := (hk1c.1.cell (p := ⟨g, k, none⟩) hgl).trans HS.out
              have hl1 := (hk1c.1.cell (p := ⟨g, q, none⟩) hgl).trans ((hk1q.1.cell (p := ⟨g, q, none⟩) hgl).symm.trans hgc2)
              have hRxc := (HRX5.out.below hkc.1).more hkc.2
              have hRyc := (hRy.below (below_step hbab hbbc hbab.size)).more (below_step hbab hbbc hbab.size).size
              have hqq : ∀ w', KeepW wc wc.heap.size w' → (w'.cell? ⟨g, k, none⟩ = some (.string s) ∧ w'.cell? ⟨g, q, none⟩ = some (.string s2) ∧ w'.cell? ⟨w2.heap.size, 0, none⟩ = some (.slice A xs.length ca) ∧ w'.cell? ⟨w2.heap.size, 1, none⟩ = some (.string t) ∧ w'.cell? ⟨wb.heap.size, 0, none⟩ = some (.slice A2 ys.length ca2) ∧ w'.cell? ⟨wb.heap.size, 1, none⟩ = some (.string t2)) ∧ KeepW wc wc.heap.size w' := fun w' h => ⟨⟨(h.1.cell (p := ⟨g, k, none⟩) hgzc).trans hl0, (h.1.cell (p := ⟨g, q, none⟩) hgzc).trans hl1, (h.1.cell (p := ⟨w2.heap.size, 0, none⟩) hxz).trans hx0, (h.1.cell (p := ⟨w2.heap.size, 1, none⟩) hxz).trans hx1, (h.1.cell (p := ⟨wb.heap.size, 0, none⟩) hbz).trans hy0, (h.1.cell (p := ⟨wb.heap.size, 1, none⟩) hbz).trans hy1⟩, h⟩
              have hvc : ∀ w', KeepW wc wc.heap.size w' → Calls Tryd.prog 16 #[.agg #[.slice A xs.length ca, .string t], .agg #[.slice A2 ys.length ca2, .string t2], .string s, .string s2] w' fun e w3 => e = .returned (.bool true) ∧ KeepW wc wc.heap.size w3 := fun w' h => h.calls (versionCompare_walk _ xs t _ ys t2 s s2 w' ((hRxc.below h.1).more h.2) ((hRyc.below h.1).more h.2) (by unfold maxLen; omega) (by unfold maxLen; omega))
              have hvo : ∀ w', KeepW wc wc.heap.size w' → ∀ (a : Addr), Reads w' w'.heap.size (.slice (some a) 2 2) (ints [1, 2]) → Calls Tryd.prog 17 #[.agg #[.slice A xs.length ca, .string t], .agg #[.slice A2 ys.length ca2, .string t2], .agg #[.slice (some a) 2 2, .string ⟨#[]⟩]] w' fun e w3 => e = .returned (.bool true) ∧ KeepW wc wc.heap.size w3 := fun w' h a hr => h.calls (versionOrder_walk _ xs t _ ys t2 _ [1, 2] ⟨#[]⟩ w' ((hRxc.below h.1).more h.2) ((hRyc.below h.1).more h.2) hr)
              have HQQ := Lib.hid hqq
              have HVC := Lib.hid hvc
              have HVO := Lib.hid hvo
              have hkcc := KeepW.start (Nat.le_refl wc.heap.size)
              clear hqq hvc hvo hRxc hRyc hx0 hx1 hl0 hl1 hy0 hy1 hp0 hp1 hgb hgc hbab hbbc hba hRy hgc2 hk1q hkq hk1c hbz hgzc hxz
              obtain ⟨⟨hl0, hl1, hx0, hx1, hy0, hy1⟩, _⟩ := HQQ.out _ hkcc
              have hiq : (0 : Int) ≤ (q : Int) := by omega
              have hiq2 : (q : Int) < 34 := by omega
              go_region_held3 (fun w' => (w'.cell? ⟨g, k, none⟩ = some (.string s) ∧ w'.cell? ⟨g, q, none⟩ = some (.string s2) ∧ w'.cell? ⟨w2.heap.size, 0, none⟩ = some (.slice A xs.length ca) ∧ w'.cell? ⟨w2.heap.size, 1, none⟩ = some (.string t) ∧ w'.cell? ⟨wb.heap.size, 0, none⟩ = some (.slice A2 ys.length ca2) ∧ w'.cell? ⟨wb.heap.size, 1, none⟩ = some (.string t2)) ∧ KeepW wc wc.heap.size w') (first | exact HQQ.out _ (by first | assumption | exact KeepW.drew (by assumption) | exact KeepW.alloc (by assumption) _ | exact KeepW.drew (KeepW.alloc (by assumption) _) | exact KeepW.alloc (KeepW.drew (by assumption)) _ | exact KeepW.drew (KeepW.alloc (KeepW.drew (by assumption)) _)) | go_keep) (first | (go_at_call 16; refine (HVC.out _ (by first | assumption | exact KeepW.drew (by assumption) | exact KeepW.alloc (by assumption) _ | exact KeepW.drew (KeepW.alloc (by assumption) _) | exact KeepW.alloc (KeepW.drew (by assumption)) _ | exact KeepW.drew (KeepW.alloc (KeepW.drew (by assumption)) _))).mono ?_; rintro e w8 ⟨rfl, hk8⟩) | (go_at_call 17; refine (HVO.out _ (by first | assumption | exact KeepW.drew (by assumption) | exact KeepW.alloc (by assumption) _ | exact KeepW.drew (KeepW.alloc (by assumption) _) | exact KeepW.alloc (KeepW.drew (by assumption)) _ | exact KeepW.drew (KeepW.alloc (KeepW.drew (by assumption)) _)) _ (by first | exact reads_new _ #[.int .i64 1, .int .i64 2] 3 (ints [1, 2]) rfl (by decide))).mono ?_; rintro e w9 ⟨rfl, hk9⟩))
              all_goals
                have hkr := hkc.back hk9
                clear hl0 hl1 hx0 hx1 hy0 hy1 hk8 hk9 hkcc
                go_wp2
                go_roundw
                case rel => exact ⟨q + 1, by omega, by go_num, hkr⟩
                case measure => simp [intOf]; omega
            · obtain rfl : q = 34 := by omega
              have hown6 := own_below hown5 hkq.1 (Nat.le_refl _)
              have hkr := hk5.back hkq
              clear hown5 hk5 hkq
              go_wp2
              go_roundw
              case rel => exact ⟨k + 1, (o ++ [s]), by omega, by go_num, HLEN, hown6, hkr⟩
              case measure => simp [intOf]; omega
        · have HX0 := Lib.hid hc0'
          have HX1 := Lib.hid hc1'
          have HRX5 := Lib.hid hRx7
          have H25 := Lib.hid hz27
          have HLEN : o.length ≤ k + 1 := by omega
          have hk5 := hk17
          have hown5 := hown7
          clear hc0' hc1' hRx7 hz27 hk17 hown7 hk7 HOL HLOW HAV
          go_wp2
          go_loopw [7] (fun kk wq => ∃ q : Nat, q ≤ 34 ∧ kk = .int .i64 q ∧ KeepW w7 w7.heap.size wq) (fun kk _ => 34 - (intOf kk).toNat)
          case atStart => exact ⟨0, by omega, rfl, KeepW.start (Nat.le_refl _)⟩
          case round =>
            obtain ⟨q, hq, rfl, hkq⟩ := hrel
            by_cases hqt : q < 34
            · have hk1q := hk5.back hkq
              have hgc2 := (hk1q.1.cell (p := ⟨g, q, none⟩) hgl).trans (HC.out q hqt)
              have hsz2 := kL_small q hqt
              obtain ⟨s2, hs2⟩ : ∃ s2, s2 = kL.getD q ⟨#[]⟩ := ⟨_, rfl⟩
              rw [← hs2] at hgc2 hsz2
              clear hs2
              go_wp2_with fail
              refine (refParse_one s2 _ (by omega)).mono ?_
              rintro e wa ⟨A2, ca2, ys, t2, ev2, rfl, hRy, _, hba, _⟩
              go_upto_region 16 with (fail)
              obtain ⟨wb, hwb, hgb, hbab, hzb, _⟩ := row_at wa wa (.cells #[.slice A2 ys.length ca2, .string t2] 30) (Below.refl _ _)
              rw [← hwb]
              have HZB := Lib.hid hzb
              clear hwb hzb
              obtain ⟨hp0, hp1, _, _⟩ := cell_two hgb
              go_upto_region 17 with (fail)
              obtain ⟨wc, hwc, hgc, hbbc, hzc, _⟩ := row_at wb wb (.cells #[.slice A2 ys.length ca2, .string t2] 24) (Below.refl _ _)
              rw [← hwc]
              clear hwc
              obtain ⟨hy0, hy1, _, _⟩ := cell_two hgc
              have hkc := hkq.step (below_step (below_step hba hbab hba.size) hbbc (below_step hba hbab hba.size).size)
              have hk1c := hk5.back hkc
              have hbz : wb.heap.size < wc.heap.size := by omega
              have hgzc : g < wc.heap.size := Nat.lt_of_lt_of_le hgl hk1c.2
              have hxz : w2.heap.size < wc.heap.size := Nat.lt_of_lt_of_le H25.out hkc.2
              clear hzc
              have hx0 := (hkc.1.cell (p := ⟨w2.heap.size, 0, none⟩) H25.out).trans HX0.out
              have hx1 := (hkc.1.cell (p := ⟨w2.heap.size, 1, none⟩) H25.out).trans HX1.out
              have hl0 := (hk1c.1.cell (p := ⟨g, k, none⟩) hgl).trans HS.out
              have hl1 := (hk1c.1.cell (p := ⟨g, q, none⟩) hgl).trans ((hk1q.1.cell (p := ⟨g, q, none⟩) hgl).symm.trans hgc2)
              have hRxc := (HRX5.out.below hkc.1).more hkc.2
              have hRyc := (hRy.below (below_step hbab hbbc hbab.size)).more (below_step hbab hbbc hbab.size).size
              have hqq : ∀ w', KeepW wc wc.heap.size w' → (w'.cell? ⟨g, k, none⟩ = some (.string s) ∧ w'.cell? ⟨g, q, none⟩ = some (.string s2) ∧ w'.cell? ⟨w2.heap.size, 0, none⟩ = some (.slice A xs.length ca) ∧ w'.cell? ⟨w2.heap.size, 1, none⟩ = some (.string t) ∧ w'.cell? ⟨wb.heap.size, 0, none⟩ = some (.slice A2 ys.length ca2) ∧ w'.cell? ⟨wb.heap.size, 1, none⟩ = some (.string t2)) ∧ KeepW wc wc.heap.size w' := fun w' h => ⟨⟨(h.1.cell (p := ⟨g, k, none⟩) hgzc).trans hl0, (h.1.cell (p := ⟨g, q, none⟩) hgzc).trans hl1, (h.1.cell (p := ⟨w2.heap.size, 0, none⟩) hxz).trans hx0, (h.1.cell (p := ⟨w2.heap.size, 1, none⟩) hxz).trans hx1, (h.1.cell (p := ⟨wb.heap.size, 0, none⟩) hbz).trans hy0, (h.1.cell (p := ⟨wb.heap.size, 1, none⟩) hbz).trans hy1⟩, h⟩
              have hvc : ∀ w', KeepW wc wc.heap.size w' → Calls Tryd.prog 16 #[.agg #[.slice A xs.length ca, .string t], .agg #[.slice A2 ys.length ca2, .string t2], .string s, .string s2] w' fun e w3 => e = .returned (.bool true) ∧ KeepW wc wc.heap.size w3 := fun w' h => h.calls (versionCompare_walk _ xs t _ ys t2 s s2 w' ((hRxc.below h.1).more h.2) ((hRyc.below h.1).more h.2) (by unfold maxLen; omega) (by unfold maxLen; omega))
              have hvo : ∀ w', KeepW wc wc.heap.size w' → ∀ (a : Addr), Reads w' w'.heap.size (.slice (some a) 2 2) (ints [1, 2]) → Calls Tryd.prog 17 #[.agg #[.slice A xs.length ca, .string t], .agg #[.slice A2 ys.length ca2, .string t2], .agg #[.slice (some a) 2 2, .string ⟨#[]⟩]] w' fun e w3 => e = .returned (.bool true) ∧ KeepW wc wc.heap.size w3 := fun w' h a hr => h.calls (versionOrder_walk _ xs t _ ys t2 _ [1, 2] ⟨#[]⟩ w' ((hRxc.below h.1).more h.2) ((hRyc.below h.1).more h.2) hr)
              have HQQ := Lib.hid hqq
              have HVC := Lib.hid hvc
              have HVO := Lib.hid hvo
              have hkcc := KeepW.start (Nat.le_refl wc.heap.size)
              clear hqq hvc hvo hRxc hRyc hx0 hx1 hl0 hl1 hy0 hy1 hp0 hp1 hgb hgc hbab hbbc hba hRy hgc2 hk1q hkq hk1c hbz hgzc hxz
              obtain ⟨⟨hl0, hl1, hx0, hx1, hy0, hy1⟩, _⟩ := HQQ.out _ hkcc
              have hiq : (0 : Int) ≤ (q : Int) := by omega
              have hiq2 : (q : Int) < 34 := by omega
              go_region_held3 (fun w' => (w'.cell? ⟨g, k, none⟩ = some (.string s) ∧ w'.cell? ⟨g, q, none⟩ = some (.string s2) ∧ w'.cell? ⟨w2.heap.size, 0, none⟩ = some (.slice A xs.length ca) ∧ w'.cell? ⟨w2.heap.size, 1, none⟩ = some (.string t) ∧ w'.cell? ⟨wb.heap.size, 0, none⟩ = some (.slice A2 ys.length ca2) ∧ w'.cell? ⟨wb.heap.size, 1, none⟩ = some (.string t2)) ∧ KeepW wc wc.heap.size w') (first | exact HQQ.out _ (by first | assumption | exact KeepW.drew (by assumption) | exact KeepW.alloc (by assumption) _ | exact KeepW.drew (KeepW.alloc (by assumption) _) | exact KeepW.alloc (KeepW.drew (by assumption)) _ | exact KeepW.drew (KeepW.alloc (KeepW.drew (by assumption)) _)) | go_keep) (first | (go_at_call 16; refine (HVC.out _ (by first | assumption | exact KeepW.drew (by assumption) | exact KeepW.alloc (by assumption) _ | exact KeepW.drew (KeepW.alloc (by assumption) _) | exact KeepW.alloc (KeepW.drew (by assumption)) _ | exact KeepW.drew (KeepW.alloc (KeepW.drew (by assumption)) _))).mono ?_; rintro e w8 ⟨rfl, hk8⟩) | (go_at_call 17; refine (HVO.out _ (by first | assumption | exact KeepW.drew (by assumption) | exact KeepW.alloc (by assumption) _ | exact KeepW.drew (KeepW.alloc (by assumption) _) | exact KeepW.alloc (KeepW.drew (by assumption)) _ | exact KeepW.drew (KeepW.alloc (KeepW.drew (by assumption)) _)) _ (by first | exact reads_new _ #[.int .i64 1, .int .i64 2] 3 (ints [1, 2]) rfl (by decide))).mono ?_; rintro e w9 ⟨rfl, hk9⟩))
              all_goals
                have hkr := hkc.back hk9
                clear hl0 hl1 hx0 hx1 hy0 hy1 hk8 hk9 hkcc
                go_wp2
                go_roundw
                case rel => exact ⟨q + 1, by omega, by go_num, hkr⟩
                case measure => simp [intOf]; omega
            · obtain rfl : q = 34 := by omega
              have hown6 := own_below hown5 hkq.1 (Nat.le_refl _)
              have hkr := hk5.back hkq
              clear hown5 hk5 hkq
              go_wp2
              go_roundw
              case rel => exact ⟨k + 1, o, by omega, by go_num, HLEN, hown6, hkr⟩
              case measure => simp [intOf]; omega
    · obtain rfl : k = 34 := by omega
      have hRO := Lib.hid (Reads.own hown)
      obtain ⟨Ap, cap, rfl⟩ := own_form hown
      clear hlt hown
      have hmk := make_nine
      go_upto_region 20 with (fail)
      clear hmk
      obtain ⟨w2, hw2, hg0, hg1, hb2, hz2⟩ := rows2 wr (.cells #[.int .i64 0, .int .i64 0, .int .i64 0, .int .i64 0, .int .i64 0, .int .i64 0, .int .i64 0, .int .i64 0, .int .i64 0] 3) (.cells #[.slice (some ⟨wr.heap.size, 0, none⟩) 9 9, .string ⟨#[]⟩] 24)
      rw [← hw2]
      clear hw2
      obtain ⟨hd0, hd1, _, _⟩ := cell_two hg1
      have hRW := Lib.hid (reads_row #[.int .i64 0, .int .i64 0, .int .i64 0, .int .i64 0, .int .i64 0, .int .i64 0, .int .i64 0, .int .i64 0, .int .i64 0] (ints [0, 0, 0, 0, 0, 0, 0, 0, 0]) hg0 rfl (by decide))
      have hRO2 := Lib.hid ((hRO.out.below hb2).more hb2.size)
      have hk2 := Lib.hid (hkw.step hb2)
      have hzw : wr.heap.size + 1 < w2.heap.size := by omega
      have HD0 := Lib.hid hd0
      have HD1 := Lib.hid hd1
      have HZW := Lib.hid hzw
      clear hz2 hb2 hkw hRO hg0 hg1 hd0 hd1 hzw
      go_wp2_with fail
      refine (versionSort_walk _ _ o _ hRO2.out).mono ?_
      rintro e wa ⟨rfl, hba⟩
      have hka := (KeepW.start (Nat.le_refl w2.heap.size)).step hba
      clear hba
      go_wp2_with fail
      refine (versionSort_walk (some _) 5 [⟨#[50]⟩, ⟨#[49, 46, 49, 48]⟩, ⟨#[49, 46, 50]⟩, ⟨#[49, 46, 50, 45, 97]⟩, ⟨#[49, 46, 50]⟩] _ (reads_new _ #[.string ⟨#[50]⟩, .string ⟨#[49, 46, 49, 48]⟩, .string ⟨#[49, 46, 50]⟩, .string ⟨#[49, 46, 50, 45, 97]⟩, .string ⟨#[49, 46, 50]⟩] 9 (strs [⟨#[50]⟩, ⟨#[49, 46, 49, 48]⟩, ⟨#[49, 46, 50]⟩, ⟨#[49, 46, 50, 45, 97]⟩, ⟨#[49, 46, 50]⟩]) rfl (by decide))).mono ?_
      rintro e wb ⟨rfl, hbb⟩
      have hkb := (hka.alloc _).step hbb
      have he0 := (hkb.1.cell (p := ⟨wr.heap.size + 1, 0, none⟩) HZW.out).trans HD0.out
      have he1 := (hkb.1.cell (p := ⟨wr.heap.size + 1, 1, none⟩) HZW.out).trans HD1.out
      clear hbb hka
      go_wp2_with fail
      refine (versionPrint_walk _ [0, 0, 0, 0, 0, 0, 0, 0, 0] ⟨#[]⟩ _ (HT1.out.below (hk2.out.back hkb).1) ((hRW.out.below hkb.1).more hkb.2)).mono ?_
      rintro e wc ⟨rfl, hbc⟩
      have hkc := hkb.step hbc
      clear hbc hkb he0 he1
      go_wp2_with fail
      refine (versionPrint_walk _ [-1] ⟨#[]⟩ _ (HT1.out.below (hk2.out.back (hkc.alloc _)).1) (reads_new _ #[.int .i64 (-1)] 3 (ints [-1]) rfl (by decide))).mono ?_
      rintro e wd ⟨rfl, hbd⟩
      have hkd := (hkc.alloc _).step hbd
      clear hbd hkc
      go_wp2_with fail
      refine (versionPrint_walk _ [1000000000] ⟨#[]⟩ _ (HT1.out.below (hk2.out.back (hkd.alloc _)).1) (reads_new _ #[.int .i64 1000000000] 3 (ints [1000000000]) rfl (by decide))).mono ?_
      rintro e we ⟨rfl, hbe⟩
      have hke := (hkd.alloc _).step hbe
      clear hbe hkd
      go_wp2_with fail
      refine (versionPrint_walk _ [1] ⟨#[65]⟩ _ (HT1.out.below (hk2.out.back (hke.alloc _)).1) (reads_new _ #[.int .i64 1] 3 (ints [1]) rfl (by decide))).mono ?_
      rintro e wf ⟨rfl, hbf⟩
      have hkf := (hke.alloc _).step hbf
      have he0 := (hkf.1.cell (p := ⟨wr.heap.size + 1, 0, none⟩) HZW.out).trans HD0.out
      have he1 := (hkf.1.cell (p := ⟨wr.heap.size + 1, 1, none⟩) HZW.out).trans HD1.out
      clear hbf hke
      go_wp2_with fail
      refine (versionOrder_walk _ [0, 0, 0, 0, 0, 0, 0, 0, 0] ⟨#[]⟩ _ [] ⟨#[]⟩ _ [] ⟨#[97]⟩ _ ((hRW.out.below hkf.1).more hkf.2) (Reads.nil _ _) (Reads.nil _ _)).mono ?_
      rintro e wg ⟨rfl, hbg⟩
      have hkg := hkf.step hbg
      clear hbg hkf he0 he1
      go_wp2_with fail
      refine (works_any _).mono ?_
      rintro e wh ⟨rfl, hbh⟩
      have hkh := hkg.step hbh
      have hF := HB1.out.trans ((hk2.out.back hkh).1.mono (Nat.le_of_lt hgl))
      rw [HG.out] at hF
      have HF := Lib.hid hF
      clear hF hbh hkg hkh
      go_wp2_with fail
      go_ret
      exact ⟨rfl, HF.out⟩
end Go.Proofs.YtijepjoklmblhaaDoor
