/- disk: does, Rename, Remove. -/
import Derived.Test.YtfgbaigpmhnoaaaDmSo
set_option linter.unusedVariables false
set_option linter.unusedSimpArgs false
namespace Go.Proofs.Ytfgbaigpmhnoaaa
open Go.RowKit Go.BigFrame Go.Maps
open Dsk (Fl St Ok get put drop used)

set_option maxRecDepth 100000 in
set_option maxHeartbeats 16000000 in
theorem does_5 (w : World) (base db rbase rb kind : Nat) (G : Nat → Prop) (ro : Nat → Role) (S : St) (name to : ByteArray) (A A2 : Option Addr) (l : List Nat) (ks : List Int) (c c2 : Nat) (n : Int) (h : DoesIn w base db rbase rb G ro S A A2 l ks c)
    (hn : name.size ≤ maxLen) (ht : to.size ≤ maxLen) (hi1 : -9223372036854775808 ≤ n) (hi2 : n ≤ 9223372036854775807) (hll : l.length ≤ maxLen) (hk : kind < 256) (hkm : kind % 12 = 5) :
    Calls Try.prog 13 #[.pointer (some ⟨db, 0, none⟩), .pointer (some ⟨rb, 0, none⟩), .agg #[.int .u8 (kind : Int), .string name, .string to, .slice A l.length c, .int .i64 n, .slice A2 ks.length c2]] w (DoesPost w base db rbase rb G ro S l.length) := by
  have HP := Lib.hid (fun (w' : World) (S' : St) (h1 : S'.steps ≤ S.steps + 1) (h2 : used S'.fs ≤ used S.fs + l.length) (hf : Fin2 w base db rbase rb G ro S' w') => show DoesPost w base db rbase rb G ro S l.length (.returned (.bool true)) w' from ⟨rfl, S', ⟨h1, h2⟩, hf⟩)
  generalize DoesPost w base db rbase rb G ro S l.length = post at *
  have hk0 : (0 : Int) ≤ (kind : Int) := by omega
  have hk1 : (kind : Int) ≤ 255 := by omega
  have hkmod : (kind : Int) % 12 = 5 := by omega
  have hktm : (kind : Int).tmod 12 = 5 := by rw [Int.tmod_eq_emod_of_nonneg hk0]; omega
  obtain ⟨W0, hW0⟩ : ∃ W0, W0 = w.alloc (.cells #[.int .u8 (kind : Int), .string name, .string to, .slice A l.length c, .int .i64 n, .slice A2 ks.length c2] 32) := ⟨_, rfl⟩
  have hb0 : Below w.heap.size w W0 := by rw [hW0]; exact (Below.refl _ _).alloc (Nat.le_refl _) _
  have hz0 : W0.heap.size = w.heap.size + 1 := by rw [hW0]; simp
  have hx0 : W0.heap[w.heap.size]? = some (.cells #[.int .u8 (kind : Int), .string name, .string to, .slice A l.length c, .int .i64 n, .slice A2 ks.length c2] 32 (0, 0)) := by rw [hW0]; exact heap_alloc_new w _
  obtain ⟨W1, cap, hcv, hcap, hcapm, hrow, hb1, hz1⟩ := bytes_new W0 l h.low hll
  have hx1 := (hb1.block w.heap.size (by omega)).trans hx0
  have hcv0 := conv_bat (h.bytes.ch (Ch.of_below hb0 (fun _ => False) fun _ _ _ => by omega) (fun _ _ _ h => h)) h.low
  have HA := Lib.hid (h.start (hb0.trans (hb1.mono (by omega))) hrow hx1 (by omega) (Nat.le_refl _) (by omega))
  have HIN := Lib.hid h
  have HCAP := Lib.hid (And.intro hcap hcapm)
  have HN := Lib.hid (And.intro hn (And.intro ht (And.intro hi1 hi2)))
  have HLL := Lib.hid hll
  have c03 := (box_cells hx0).2.2.2.1
  obtain ⟨c10, c11, c12, c13, c14, c15⟩ := box_cells hx1
  generalize hstr : strOf (l.map UInt8.ofNat) = str at *
  have HSTR := Lib.hid hstr
  obtain ⟨g, hg⟩ : ∃ g, g = W0.heap.size := ⟨_, rfl⟩
  rw [← hg] at hcv HA
  have HG := Lib.hid (show w.heap.size + 1 = g from by omega)
  clear h hb0 hz0 hx0 hb1 hz1 hx1 hrow hcap hcapm hn ht hi1 hi2 hll hstr hkm hk hg
  go_enter Try.func13, Try.ntmps13
  go_upto_region 1 with (fail)
  rw [← hW0]
  clear hW0
  obtain ⟨S1, hS1⟩ : ∃ S1, S1 = renameS S name to := ⟨_, rfl⟩
  obtain ⟨cc, hC1⟩ : ∃ cc, cc = renameC S name to := ⟨_, rfl⟩
  have HS1 := Lib.hid hS1
  have HC1 := Lib.hid hC1
  have HS5 := Lib.hid (show S1.steps ≤ S.steps + 1 ∧ used S1.fs ≤ used S.fs + l.length from by
    rw [HS1.out]
    have := rename_up HIN.out.ok name to
    exact ⟨this.1, by omega⟩)
  clear hS1 hC1
  go_upto_region 13 with (fail)
  have HD0 := Lib.hid HA.out.did
  have hkk0 : KeepW W1 W1.heap.size W1 := KeepW.start (Nat.le_refl _)
  have hcells : ∀ w' : World, W1.heap.size ≤ w'.heap.size → w'.heap[w.heap.size]? = W1.heap[w.heap.size]? → (w'.cell? ⟨w.heap.size, 1, none⟩ = some (.string name) ∧ w'.cell? ⟨w.heap.size, 2, none⟩ = some (.string to) ∧ w'.cell? ⟨w.heap.size, 3, none⟩ = some (.slice A l.length c) ∧ w'.cell? ⟨w.heap.size, 4, none⟩ = some (.int .i64 n)) := fun w' _ hb => by
    have := box_cells (hb.trans HA.out.blk)
    exact ⟨this.2.1, this.2.2.1, this.2.2.2.1, this.2.2.2.2.1⟩
  have hgw := HG.out
  have hbl : w.heap.size < W1.heap.size := block_lt HA.out.blk
  have HKK := Lib.hid (fun (w' : World) (hk : KeepW W1 W1.heap.size w') => hcells w' hk.2 (hk.1.block _ hbl))
  have HKM := Lib.hid (fun (w' : World) (hm : Mid W1 base db ro S1 w') => hcells w' (by obtain ⟨_, hl⟩ := hm; exact hl.ch.size) (by obtain ⟨_, hl⟩ := hm; exact hl.ch.block _ hbl (own_none HA.out.bn)))
  have HKF := Lib.hid (fun (w' : World) (hm : Fin2 W1 base db rbase rb (fun b => G b ∨ b = g) ro S1 w') => hcells w' (by obtain ⟨_, _, _, _, _, hl⟩ := hm; exact hl.size) (by obtain ⟨_, _, _, _, _, hl⟩ := hm; exact hl.block _ hbl (fun e => e.elim (own_none HA.out.bn) (fun e => by have := HA.out.rl; omega))))
  have HCA := Lib.hid (fun (w' : World) (hk : KeepW W1 W1.heap.size w') => Mid.calls (S1 := S1) (r := .int .i64 cc) HD0.out.disk hk fun hd => by
    rw [HS1.out, HC1.out]
    exact rename_any w' base db ro S name to hd HN.out.1 HN.out.2.1 HIN.out.steps)
  have HCB := Lib.hid (fun (w' : World) (hm : Mid W1 base db ro S1 w') => Fin2.calls (S := S) (r := .int .i64 cc) HD0.out.ref HD0.out.rbn hm HD0.out.new fun P hr hP => by
    rw [HS1.out, HC1.out]
    exact rrename_any hr HIN.out.ok name to HN.out.2.1 HN.out.1 HIN.out.steps hP)
  clear hcells c10 c11 c12 c13 c14 c15
  go_region_held3 (fun w' => (w'.cell? ⟨w.heap.size, 1, none⟩ = some (.string name) ∧ w'.cell? ⟨w.heap.size, 2, none⟩ = some (.string to) ∧ w'.cell? ⟨w.heap.size, 3, none⟩ = some (.slice A l.length c) ∧ w'.cell? ⟨w.heap.size, 4, none⟩ = some (.int .i64 n))) (first | exact HKK.out _ (by assumption) | exact HKK.out _ (KeepW.drew (by assumption)) | exact HKM.out _ (by assumption) | exact HKM.out _ (Mid.drew (by assumption)) | exact HKF.out _ (by assumption) | exact HKF.out _ (Fin2.drew (by assumption)) | go_keep) (first | (go_at_call 22; refine (HCA.out _ (by first | assumption | exact KeepW.drew (by assumption))).mono ?_; rintro e w4 ⟨rfl, hm4⟩) | (go_at_call 31; refine (HCB.out _ (by first | assumption | exact Mid.drew (by assumption))).mono ?_; rintro e w5 ⟨rfl, hf5⟩))
  have HF5 := Lib.hid hf5
  clear HKK HKM HKF HCA HCB hkk0 hm4 hf5
  obtain ⟨ro5, hd5, hr5, hrb5, hsub5, hch5⟩ := HF5.out
  obtain ⟨bx5, mr5, bt5⟩ := HA.out.ext hch5
  have hcm5 := conv_bat (mr5.bat HCAP.out.1 HCAP.out.2) HIN.out.low
  have hcb5 := conv_bat bt5 HIN.out.low
  rw [HSTR.out] at hcm5 hcb5
  have k3 := (box_cells bx5).2.2.2.1
  have hss : (str.toList == str.toList) = true := by simp
  have HM5 := Lib.hid mr5
  have HLN := Lib.hid (show l.length ≤ 9223372036854775807 from by have := HLL.out; unfold maxLen at this; exact this)
  have hln := HLN.out
  clear bx5 mr5 bt5 hd5 hr5 hrb5 hsub5 hch5
  go_wp2
  go_loopw [13] (fun iv wr => ∃ (k : Nat) (ys : List Nat), iv = .int .i64 (k : Int) ∧ k ≤ l.length ∧ ys.length = l.length ∧ Hid (∀ y ∈ ys, y < 256) ∧ Hid (MRow wr g ys) ∧ Hid (Ch w5 wr (fun b => b = g))) (fun iv _ => l.length - (intOf iv).toNat)
  case atStart => exact ⟨0, l, rfl, by omega, rfl, Lib.hid HIN.out.low, HM5, Lib.hid (Ch.refl _ _)⟩
  case round =>
    obtain ⟨k, ys, rfl, hk, hyl, HY, HR, HC⟩ := hrel
    by_cases hkl : k < l.length
    · have ck := HR.out.cell k (by omega)
      have fk := HR.out.free k (by omega)
      have hyb : ys.getD k 0 < 256 := by
        rw [List.getD_eq_getElem?_getD, List.getElem?_eq_getElem (by omega)]; exact HY.out _ (List.getElem_mem _)
      have hup := u8_up _ hyb
      have hcl : l.length ≤ cap := HCAP.out.1
      have HR1 := Lib.hid (HR.out.set k ((ys.getD k 0 + 1) % 256) (by omega))
      have HC1 := Lib.hid (HC.out.setCell (p := ⟨g, k, none⟩) rfl (.int .u8 (((ys.getD k 0 + 1) % 256 : Nat) : Int)))
      have HY1 := Lib.hid (set_lt HY.out (show (ys.getD k 0 + 1) % 256 < 256 by omega) : ∀ x ∈ ys.set k ((ys.getD k 0 + 1) % 256), x < 256)
      have hyl1 : (ys.set k ((ys.getD k 0 + 1) % 256)).length = l.length := by rw [List.length_set]; exact hyl
      generalize (ys.getD k 0 + 1) % 256 = y1 at *
      generalize ys.getD k 0 = y at *
      clear HR HC HY
      go_wp2
      go_roundw
      case rel => exact ⟨k + 1, _, by go_num, by omega, hyl1, HY1, HR1, HC1⟩
      case measure => simp [intOf]; omega
    · have HQ := Lib.hid (HP.out wr _ HS5.out.1 HS5.out.2 (HA.out.fin HF5.out HC.out HIN.out.disk))
      clear HP HR HC HY
      go_wp2
      exact HQ.out

set_option maxRecDepth 100000 in
set_option maxHeartbeats 16000000 in
theorem does_6 (w : World) (base db rbase rb kind : Nat) (G : Nat → Prop) (ro : Nat → Role) (S : St) (name to : ByteArray) (A A2 : Option Addr) (l : List Nat) (ks : List Int) (c c2 : Nat) (n : Int) (h : DoesIn w base db rbase rb G ro S A A2 l ks c)
    (hn : name.size ≤ maxLen) (ht : to.size ≤ maxLen) (hi1 : -9223372036854775808 ≤ n) (hi2 : n ≤ 9223372036854775807) (hll : l.length ≤ maxLen) (hk : kind < 256) (hkm : kind % 12 = 6) :
    Calls Try.prog 13 #[.pointer (some ⟨db, 0, none⟩), .pointer (some ⟨rb, 0, none⟩), .agg #[.int .u8 (kind : Int), .string name, .string to, .slice A l.length c, .int .i64 n, .slice A2 ks.length c2]] w (DoesPost w base db rbase rb G ro S l.length) := by
  have HP := Lib.hid (fun (w' : World) (S' : St) (h1 : S'.steps ≤ S.steps + 1) (h2 : used S'.fs ≤ used S.fs + l.length) (hf : Fin2 w base db rbase rb G ro S' w') => show DoesPost w base db rbase rb G ro S l.length (.returned (.bool true)) w' from ⟨rfl, S', ⟨h1, h2⟩, hf⟩)
  generalize DoesPost w base db rbase rb G ro S l.length = post at *
  have hk0 : (0 : Int) ≤ (kind : Int) := by omega
  have hk1 : (kind : Int) ≤ 255 := by omega
  have hkmod : (kind : Int) % 12 = 6 := by omega
  have hktm : (kind : Int).tmod 12 = 6 := by rw [Int.tmod_eq_emod_of_nonneg hk0]; omega
  obtain ⟨W0, hW0⟩ : ∃ W0, W0 = w.alloc (.cells #[.int .u8 (kind : Int), .string name, .string to, .slice A l.length c, .int .i64 n, .slice A2 ks.length c2] 32) := ⟨_, rfl⟩
  have hb0 : Below w.heap.size w W0 := by rw [hW0]; exact (Below.refl _ _).alloc (Nat.le_refl _) _
  have hz0 : W0.heap.size = w.heap.size + 1 := by rw [hW0]; simp
  have hx0 : W0.heap[w.heap.size]? = some (.cells #[.int .u8 (kind : Int), .string name, .string to, .slice A l.length c, .int .i64 n, .slice A2 ks.length c2] 32 (0, 0)) := by rw [hW0]; exact heap_alloc_new w _
  obtain ⟨W1, cap, hcv, hcap, hcapm, hrow, hb1, hz1⟩ := bytes_new W0 l h.low hll
  have hx1 := (hb1.block w.heap.size (by omega)).trans hx0
  have hcv0 := conv_bat (h.bytes.ch (Ch.of_below hb0 (fun _ => False) fun _ _ _ => by omega) (fun _ _ _ h => h)) h.low
  have HA := Lib.hid (h.start (hb0.trans (hb1.mono (by omega))) hrow hx1 (by omega) (Nat.le_refl _) (by omega))
  have HIN := Lib.hid h
  have HCAP := Lib.hid (And.intro hcap hcapm)
  have HN := Lib.hid (And.intro hn (And.intro ht (And.intro hi1 hi2)))
  have HLL := Lib.hid hll
  have c03 := (box_cells hx0).2.2.2.1
  obtain ⟨c10, c11, c12, c13, c14, c15⟩ := box_cells hx1
  generalize hstr : strOf (l.map UInt8.ofNat) = str at *
  have HSTR := Lib.hid hstr
  obtain ⟨g, hg⟩ : ∃ g, g = W0.heap.size := ⟨_, rfl⟩
  rw [← hg] at hcv HA
  have HG := Lib.hid (show w.heap.size + 1 = g from by omega)
  clear h hb0 hz0 hx0 hb1 hz1 hx1 hrow hcap hcapm hn ht hi1 hi2 hll hstr hkm hk hg
  go_enter Try.func13, Try.ntmps13
  go_upto_region 1 with (fail)
  rw [← hW0]
  clear hW0
  obtain ⟨S1, hS1⟩ : ∃ S1, S1 = removeS S name := ⟨_, rfl⟩
  obtain ⟨cc, hC1⟩ : ∃ cc, cc = syncC S name := ⟨_, rfl⟩
  have HS1 := Lib.hid hS1
  have HC1 := Lib.hid hC1
  have HS5 := Lib.hid (show S1.steps ≤ S.steps + 1 ∧ used S1.fs ≤ used S.fs + l.length from by
    rw [HS1.out]
    have := remove_up HIN.out.ok name
    exact ⟨this.1, by omega⟩)
  clear hS1 hC1
  go_upto_region 15 with (fail)
  have HD0 := Lib.hid HA.out.did
  have hkk0 : KeepW W1 W1.heap.size W1 := KeepW.start (Nat.le_refl _)
  have hcells : ∀ w' : World, W1.heap.size ≤ w'.heap.size → w'.heap[w.heap.size]? = W1.heap[w.heap.size]? → (w'.cell? ⟨w.heap.size, 1, none⟩ = some (.string name) ∧ w'.cell? ⟨w.heap.size, 2, none⟩ = some (.string to) ∧ w'.cell? ⟨w.heap.size, 3, none⟩ = some (.slice A l.length c) ∧ w'.cell? ⟨w.heap.size, 4, none⟩ = some (.int .i64 n)) := fun w' _ hb => by
    have := box_cells (hb.trans HA.out.blk)
    exact ⟨this.2.1, this.2.2.1, this.2.2.2.1, this.2.2.2.2.1⟩
  have hgw := HG.out
  have hbl : w.heap.size < W1.heap.size := block_lt HA.out.blk
  have HKK := Lib.hid (fun (w' : World) (hk : KeepW W1 W1.heap.size w') => hcells w' hk.2 (hk.1.block _ hbl))
  have HKM := Lib.hid (fun (w' : World) (hm : Mid W1 base db ro S1 w') => hcells w' (by obtain ⟨_, hl⟩ := hm; exact hl.ch.size) (by obtain ⟨_, hl⟩ := hm; exact hl.ch.block _ hbl (own_none HA.out.bn)))
  have HKF := Lib.hid (fun (w' : World) (hm : Fin2 W1 base db rbase rb (fun b => G b ∨ b = g) ro S1 w') => hcells w' (by obtain ⟨_, _, _, _, _, hl⟩ := hm; exact hl.size) (by obtain ⟨_, _, _, _, _, hl⟩ := hm; exact hl.block _ hbl (fun e => e.elim (own_none HA.out.bn) (fun e => by have := HA.out.rl; omega))))
  have HCA := Lib.hid (fun (w' : World) (hk : KeepW W1 W1.heap.size w') => Mid.calls (S1 := S1) (r := .int .i64 cc) HD0.out.disk hk fun hd => by
    rw [HS1.out, HC1.out]
    exact remove_any w' base db ro S name hd HN.out.1 HIN.out.steps)
  have HCB := Lib.hid (fun (w' : World) (hm : Mid W1 base db ro S1 w') => Fin2.calls (S := S) (r := .int .i64 cc) HD0.out.ref HD0.out.rbn hm HD0.out.new fun P hr hP => by
    rw [HS1.out, HC1.out]
    exact rremove_any hr HIN.out.ok name HN.out.1 HIN.out.steps hP)
  clear hcells c10 c11 c12 c13 c14 c15
  go_region_held3 (fun w' => (w'.cell? ⟨w.heap.size, 1, none⟩ = some (.string name) ∧ w'.cell? ⟨w.heap.size, 2, none⟩ = some (.string to) ∧ w'.cell? ⟨w.heap.size, 3, none⟩ = some (.slice A l.length c) ∧ w'.cell? ⟨w.heap.size, 4, none⟩ = some (.int .i64 n))) (first | exact HKK.out _ (by assumption) | exact HKK.out _ (KeepW.drew (by assumption)) | exact HKM.out _ (by assumption) | exact HKM.out _ (Mid.drew (by assumption)) | exact HKF.out _ (by assumption) | exact HKF.out _ (Fin2.drew (by assumption)) | go_keep) (first | (go_at_call 26; refine (HCA.out _ (by first | assumption | exact KeepW.drew (by assumption))).mono ?_; rintro e w4 ⟨rfl, hm4⟩) | (go_at_call 32; refine (HCB.out _ (by first | assumption | exact Mid.drew (by assumption))).mono ?_; rintro e w5 ⟨rfl, hf5⟩))
  have HF5 := Lib.hid hf5
  clear HKK HKM HKF HCA HCB hkk0 hm4 hf5
  obtain ⟨ro5, hd5, hr5, hrb5, hsub5, hch5⟩ := HF5.out
  obtain ⟨bx5, mr5, bt5⟩ := HA.out.ext hch5
  have hcm5 := conv_bat (mr5.bat HCAP.out.1 HCAP.out.2) HIN.out.low
  have hcb5 := conv_bat bt5 HIN.out.low
  rw [HSTR.out] at hcm5 hcb5
  have k3 := (box_cells bx5).2.2.2.1
  have hss : (str.toList == str.toList) = true := by simp
  have HM5 := Lib.hid mr5
  have HLN := Lib.hid (show l.length ≤ 9223372036854775807 from by have := HLL.out; unfold maxLen at this; exact this)
  have hln := HLN.out
  clear bx5 mr5 bt5 hd5 hr5 hrb5 hsub5 hch5
  go_wp2
  go_loopw [13] (fun iv wr => ∃ (k : Nat) (ys : List Nat), iv = .int .i64 (k : Int) ∧ k ≤ l.length ∧ ys.length = l.length ∧ Hid (∀ y ∈ ys, y < 256) ∧ Hid (MRow wr g ys) ∧ Hid (Ch w5 wr (fun b => b = g))) (fun iv _ => l.length - (intOf iv).toNat)
  case atStart => exact ⟨0, l, rfl, by omega, rfl, Lib.hid HIN.out.low, HM5, Lib.hid (Ch.refl _ _)⟩
  case round =>
    obtain ⟨k, ys, rfl, hk, hyl, HY, HR, HC⟩ := hrel
    by_cases hkl : k < l.length
    · have ck := HR.out.cell k (by omega)
      have fk := HR.out.free k (by omega)
      have hyb : ys.getD k 0 < 256 := by
        rw [List.getD_eq_getElem?_getD, List.getElem?_eq_getElem (by omega)]; exact HY.out _ (List.getElem_mem _)
      have hup := u8_up _ hyb
      have hcl : l.length ≤ cap := HCAP.out.1
      have HR1 := Lib.hid (HR.out.set k ((ys.getD k 0 + 1) % 256) (by omega))
      have HC1 := Lib.hid (HC.out.setCell (p := ⟨g, k, none⟩) rfl (.int .u8 (((ys.getD k 0 + 1) % 256 : Nat) : Int)))
      have HY1 := Lib.hid (set_lt HY.out (show (ys.getD k 0 + 1) % 256 < 256 by omega) : ∀ x ∈ ys.set k ((ys.getD k 0 + 1) % 256), x < 256)
      have hyl1 : (ys.set k ((ys.getD k 0 + 1) % 256)).length = l.length := by rw [List.length_set]; exact hyl
      generalize (ys.getD k 0 + 1) % 256 = y1 at *
      generalize ys.getD k 0 = y at *
      clear HR HC HY
      go_wp2
      go_roundw
      case rel => exact ⟨k + 1, _, by go_num, by omega, hyl1, HY1, HR1, HC1⟩
      case measure => simp [intOf]; omega
    · have HQ := Lib.hid (HP.out wr _ HS5.out.1 HS5.out.2 (HA.out.fin HF5.out HC.out HIN.out.disk))
      clear HP HR HC HY
      go_wp2
      exact HQ.out
end Go.Proofs.Ytfgbaigpmhnoaaa
