/- disk: does, Read, and nothing. -/
import Derived.Test.YtfgbaigpmhnoaaaDmSo
set_option linter.unusedVariables false
set_option linter.unusedSimpArgs false
namespace Go.Proofs.Ytfgbaigpmhnoaaa
open Go.RowKit Go.BigFrame Go.Maps
open Dsk (Fl St Ok get put drop used)

set_option maxRecDepth 100000 in
set_option maxHeartbeats 16000000 in
theorem does_7 (w : World) (base db rbase rb kind : Nat) (G : Nat → Prop) (ro : Nat → Role) (S : St) (name to : ByteArray) (A A2 : Option Addr) (l : List Nat) (ks : List Int) (c c2 : Nat) (n : Int) (h : DoesIn w base db rbase rb G ro S A A2 l ks c)
    (hn : name.size ≤ maxLen) (ht : to.size ≤ maxLen) (hi1 : -9223372036854775808 ≤ n) (hi2 : n ≤ 9223372036854775807) (hll : l.length ≤ maxLen) (hk : kind < 256) (hkm : kind % 12 = 7) :
    Calls Try.prog 13 #[.pointer (some ⟨db, 0, none⟩), .pointer (some ⟨rb, 0, none⟩), .agg #[.int .u8 (kind : Int), .string name, .string to, .slice A l.length c, .int .i64 n, .slice A2 ks.length c2]] w (DoesPost w base db rbase rb G ro S l.length) := by
  have HP := Lib.hid (fun (w' : World) (S' : St) (h1 : S'.steps ≤ S.steps + 1) (h2 : used S'.fs ≤ used S.fs + l.length) (hf : Fin2 w base db rbase rb G ro S' w') => show DoesPost w base db rbase rb G ro S l.length (.returned (.bool true)) w' from ⟨rfl, S', ⟨h1, h2⟩, hf⟩)
  generalize DoesPost w base db rbase rb G ro S l.length = post at *
  have hk0 : (0 : Int) ≤ (kind : Int) := by omega
  have hk1 : (kind : Int) ≤ 255 := by omega
  have hkmod : (kind : Int) % 12 = 7 := by omega
  have hktm : (kind : Int).tmod 12 = 7 := by rw [Int.tmod_eq_emod_of_nonneg hk0]; omega
  obtain ⟨W0, hW0⟩ : ∃ W0, W0 = w.alloc (.cells #[.int .u8 (kind : Int), .string name, .string to, .slice A l.length c, .int .i64 n, .slice A2 ks.length c2] 32) := ⟨_, rfl⟩
  have hb0 : Below w.heap.size w W0 := by rw [hW0]; exact (Below.refl _ _).alloc (Nat.le_refl _) _
  have hz0 : W0.heap.size = w.heap.size + 1 := by rw [hW0]; simp
  have hx0 : W0.heap[w.heap.size]? = some (.cells #[.int .u8 (kind : Int), .string name, .string to, .slice A l.length c, .int .i64 n, .slice A2 ks.length c2] 32 (0, 0)) := by rw [hW0]; exact heap_alloc_new w _
  obtain ⟨W1, cap, hcv, hcap, hcapm, hrow, hb1, hz1⟩ := bytes_new W0 l h.low hll
  have hx1 := (hb1.block w.heap.size (by omega)).trans hx0
  have hcv0 := conv_bat (h.bytes.ch (Ch.of_below hb0 (fun _ => False) fun _ _ _ => by omega) (fun _ _ _ h => h)) h.low
  have HA := Lib.hid (h.start (hb0.trans (hb1.mono (by omega))) hrow hx1 (by omega) (Nat.le_refl _) (by omega))
  have HIN := Lib.hid h
  have HCAP := Lib.hid (And.intro hcap hcapm)
  have HN := Lib.hid (And.intro hn (And.intro ht (And.intro hi1 hi2)))
  have HLL := Lib.hid hll
  have c03 := (box_cells hx0).2.2.2.1
  obtain ⟨c10, c11, c12, c13, c14, c15⟩ := box_cells hx1
  generalize hstr : strOf (l.map UInt8.ofNat) = str at *
  have HSTR := Lib.hid hstr
  obtain ⟨g, hg⟩ : ∃ g, g = W0.heap.size := ⟨_, rfl⟩
  rw [← hg] at hcv HA
  have HG := Lib.hid (show w.heap.size + 1 = g from by omega)
  clear h hb0 hz0 hx0 hb1 hz1 hx1 hrow hcap hcapm hn ht hi1 hi2 hll hstr hkm hk hg
  go_enter Try.func13, Try.ntmps13
  go_upto_region 1 with (fail)
  rw [← hW0]
  clear hW0
  have HD0 := Lib.hid HA.out.did
  have HRD := Lib.hid (read_any W1 base db ro S name HD0.out.disk HN.out.1)
  unfold ReadPost at HRD
  have HRR := Lib.hid (fun (w' : World) (hb : Below W1.heap.size W1 w') => rread_any (HD0.out.ref.below hb) name HN.out.1)
  unfold RReadPost at HRR
  have HLB := Lib.hid (readB_low HIN.out.ok name)
  generalize readB S name = L at *
  generalize readC S name = cc at *
  go_wp2_with fail
  refine HRD.out.mono ?_
  rintro e w3 ⟨hb3, v3, rfl, hrow3⟩
  have HRR3 := Lib.hid (HRR.out w3 hb3)
  obtain ⟨d10, d11, d12, d13, d14, d15⟩ := box_cells ((hb3.block w.heap.size (block_lt HA.out.blk)).trans HA.out.blk)
  have HB3 := Lib.hid hb3
  have H3 := Lib.hid hrow3
  clear hb3 hrow3 HRR HRD
  go_wp2_with fail
  refine HRR3.out.mono ?_
  rintro e w5 ⟨hb5, v5, rfl, hrow5⟩
  have hrow3' : w5.ownsRow W1.heap.size 5 1 v3 L.length (bvs L) := (Ch.of_below hb5 (fun b => w3.heap.size ≤ b) (fun _ _ hk => hk)).own H3.out (fun b hb hM => by have := (H3.out.lt b hb).2; omega)
  have cv3 := conv_row hrow3' rfl HLB.out
  have cv5 := conv_bat hrow5 HLB.out
  generalize strOf (L.map UInt8.ofNat) = str2 at *
  have hss2 : (str2.toList == str2.toList) = true := by simp
  obtain ⟨A3, cc3, rfl⟩ := own_sl hrow3'
  obtain ⟨A5, cc5, hv5, _, _⟩ := hrow5.slice
  subst hv5
  have hb15 : Below W1.heap.size W1 w5 := below_step HB3.out hb5 HB3.out.size
  have HF5 := Lib.hid (show Fin2 W1 base db rbase rb (fun b => G b ∨ b = g) ro S w5 from ⟨ro, HD0.out.disk.below hb15, HD0.out.ref.below hb15, HD0.out.rbn, Sub.refl _ _, Ch.of_below hb15 _ fun k hk hge => by omega⟩)
  have HS5 := Lib.hid (show S.steps ≤ S.steps + 1 ∧ used S.fs ≤ used S.fs + l.length from ⟨Nat.le_succ _, Nat.le_add_right _ _⟩)
  clear hb5 hrow5 hrow3' HRR3 H3 HB3 hb15 d10 d11 d12 d13 d14 d15 c10 c11 c12 c13 c14 c15
  obtain ⟨ro5, hd5, hr5, hrb5, hsub5, hch5⟩ := HF5.out
  obtain ⟨bx5, mr5, bt5⟩ := HA.out.ext hch5
  have hcm5 := conv_bat (mr5.bat HCAP.out.1 HCAP.out.2) HIN.out.low
  have hcb5 := conv_bat bt5 HIN.out.low
  rw [HSTR.out] at hcm5 hcb5
  have k3 := (box_cells bx5).2.2.2.1
  have hss : (str.toList == str.toList) = true := by simp
  have HM5 := Lib.hid mr5
  have HLN := Lib.hid (show l.length ≤ 9223372036854775807 from by have := HLL.out; unfold maxLen at this; exact this)
  have hln := HLN.out
  clear bx5 mr5 bt5 hd5 hr5 hrb5 hsub5 hch5
  go_wp2
  go_loopw [13] (fun iv wr => ∃ (k : Nat) (ys : List Nat), iv = .int .i64 (k : Int) ∧ k ≤ l.length ∧ ys.length = l.length ∧ Hid (∀ y ∈ ys, y < 256) ∧ Hid (MRow wr g ys) ∧ Hid (Ch w5 wr (fun b => b = g))) (fun iv _ => l.length - (intOf iv).toNat)
  case atStart => exact ⟨0, l, rfl, by omega, rfl, Lib.hid HIN.out.low, HM5, Lib.hid (Ch.refl _ _)⟩
  case round =>
    obtain ⟨k, ys, rfl, hk, hyl, HY, HR, HC⟩ := hrel
    by_cases hkl : k < l.length
    · have ck := HR.out.cell k (by omega)
      have fk := HR.out.free k (by omega)
      have hyb : ys.getD k 0 < 256 := by
        rw [List.getD_eq_getElem?_getD, List.getElem?_eq_getElem (by omega)]; exact HY.out _ (List.getElem_mem _)
      have hup := u8_up _ hyb
      have hcl : l.length ≤ cap := HCAP.out.1
      have HR1 := Lib.hid (HR.out.set k ((ys.getD k 0 + 1) % 256) (by omega))
      have HC1 := Lib.hid (HC.out.setCell (p := ⟨g, k, none⟩) rfl (.int .u8 (((ys.getD k 0 + 1) % 256 : Nat) : Int)))
      have HY1 := Lib.hid (set_lt HY.out (show (ys.getD k 0 + 1) % 256 < 256 by omega) : ∀ x ∈ ys.set k ((ys.getD k 0 + 1) % 256), x < 256)
      have hyl1 : (ys.set k ((ys.getD k 0 + 1) % 256)).length = l.length := by rw [List.length_set]; exact hyl
      generalize (ys.getD k 0 + 1) % 256 = y1 at *
      generalize ys.getD k 0 = y at *
      clear HR HC HY
      go_wp2
      go_roundw
      case rel => exact ⟨k + 1, _, by go_num, by omega, hyl1, HY1, HR1, HC1⟩
      case measure => simp [intOf]; omega
    · have HQ := Lib.hid (HP.out wr _ HS5.out.1 HS5.out.2 (HA.out.fin HF5.out HC.out HIN.out.disk))
      clear HP HR HC HY
      go_wp2
      exact HQ.out

set_option maxRecDepth 100000 in
set_option maxHeartbeats 16000000 in
theorem does_11 (w : World) (base db rbase rb kind : Nat) (G : Nat → Prop) (ro : Nat → Role) (S : St) (name to : ByteArray) (A A2 : Option Addr) (l : List Nat) (ks : List Int) (c c2 : Nat) (n : Int) (h : DoesIn w base db rbase rb G ro S A A2 l ks c)
    (hn : name.size ≤ maxLen) (ht : to.size ≤ maxLen) (hi1 : -9223372036854775808 ≤ n) (hi2 : n ≤ 9223372036854775807) (hll : l.length ≤ maxLen) (hk : kind < 256) (hkm : kind % 12 = 11) :
    Calls Try.prog 13 #[.pointer (some ⟨db, 0, none⟩), .pointer (some ⟨rb, 0, none⟩), .agg #[.int .u8 (kind : Int), .string name, .string to, .slice A l.length c, .int .i64 n, .slice A2 ks.length c2]] w (DoesPost w base db rbase rb G ro S l.length) := by
  have HP := Lib.hid (fun (w' : World) (S' : St) (h1 : S'.steps ≤ S.steps + 1) (h2 : used S'.fs ≤ used S.fs + l.length) (hf : Fin2 w base db rbase rb G ro S' w') => show DoesPost w base db rbase rb G ro S l.length (.returned (.bool true)) w' from ⟨rfl, S', ⟨h1, h2⟩, hf⟩)
  generalize DoesPost w base db rbase rb G ro S l.length = post at *
  have hk0 : (0 : Int) ≤ (kind : Int) := by omega
  have hk1 : (kind : Int) ≤ 255 := by omega
  have hkmod : (kind : Int) % 12 = 11 := by omega
  have hktm : (kind : Int).tmod 12 = 11 := by rw [Int.tmod_eq_emod_of_nonneg hk0]; omega
  obtain ⟨W0, hW0⟩ : ∃ W0, W0 = w.alloc (.cells #[.int .u8 (kind : Int), .string name, .string to, .slice A l.length c, .int .i64 n, .slice A2 ks.length c2] 32) := ⟨_, rfl⟩
  have hb0 : Below w.heap.size w W0 := by rw [hW0]; exact (Below.refl _ _).alloc (Nat.le_refl _) _
  have hz0 : W0.heap.size = w.heap.size + 1 := by rw [hW0]; simp
  have hx0 : W0.heap[w.heap.size]? = some (.cells #[.int .u8 (kind : Int), .string name, .string to, .slice A l.length c, .int .i64 n, .slice A2 ks.length c2] 32 (0, 0)) := by rw [hW0]; exact heap_alloc_new w _
  obtain ⟨W1, cap, hcv, hcap, hcapm, hrow, hb1, hz1⟩ := bytes_new W0 l h.low hll
  have hx1 := (hb1.block w.heap.size (by omega)).trans hx0
  have hcv0 := conv_bat (h.bytes.ch (Ch.of_below hb0 (fun _ => False) fun _ _ _ => by omega) (fun _ _ _ h => h)) h.low
  have HA := Lib.hid (h.start (hb0.trans (hb1.mono (by omega))) hrow hx1 (by omega) (Nat.le_refl _) (by omega))
  have HIN := Lib.hid h
  have HCAP := Lib.hid (And.intro hcap hcapm)
  have HN := Lib.hid (And.intro hn (And.intro ht (And.intro hi1 hi2)))
  have HLL := Lib.hid hll
  have c03 := (box_cells hx0).2.2.2.1
  obtain ⟨c10, c11, c12, c13, c14, c15⟩ := box_cells hx1
  generalize hstr : strOf (l.map UInt8.ofNat) = str at *
  have HSTR := Lib.hid hstr
  obtain ⟨g, hg⟩ : ∃ g, g = W0.heap.size := ⟨_, rfl⟩
  rw [← hg] at hcv HA
  have HG := Lib.hid (show w.heap.size + 1 = g from by omega)
  clear h hb0 hz0 hx0 hb1 hz1 hx1 hrow hcap hcapm hn ht hi1 hi2 hll hstr hkm hk hg
  go_enter Try.func13, Try.ntmps13
  go_upto_region 1 with (fail)
  rw [← hW0]
  clear hW0
  have HD0 := Lib.hid HA.out.did
  obtain ⟨w5, hw5⟩ : ∃ w5, w5 = W1 := ⟨_, rfl⟩
  have HF5 := Lib.hid (show Fin2 W1 base db rbase rb (fun b => G b ∨ b = g) ro S w5 from by rw [hw5]; exact ⟨ro, HD0.out.disk, HD0.out.ref, HD0.out.rbn, Sub.refl _ _, Ch.refl _ _⟩)
  have HS5 := Lib.hid (show S.steps ≤ S.steps + 1 ∧ used S.fs ≤ used S.fs + l.length from ⟨Nat.le_succ _, Nat.le_add_right _ _⟩)
  go_upto_region 29 with (fail)
  rw [← hw5]
  clear hw5 c10 c11 c12 c13 c14 c15
  obtain ⟨ro5, hd5, hr5, hrb5, hsub5, hch5⟩ := HF5.out
  obtain ⟨bx5, mr5, bt5⟩ := HA.out.ext hch5
  have hcm5 := conv_bat (mr5.bat HCAP.out.1 HCAP.out.2) HIN.out.low
  have hcb5 := conv_bat bt5 HIN.out.low
  rw [HSTR.out] at hcm5 hcb5
  have k3 := (box_cells bx5).2.2.2.1
  have hss : (str.toList == str.toList) = true := by simp
  have HM5 := Lib.hid mr5
  have HLN := Lib.hid (show l.length ≤ 9223372036854775807 from by have := HLL.out; unfold maxLen at this; exact this)
  have hln := HLN.out
  clear bx5 mr5 bt5 hd5 hr5 hrb5 hsub5 hch5
  go_wp2
  go_loopw [13] (fun iv wr => ∃ (k : Nat) (ys : List Nat), iv = .int .i64 (k : Int) ∧ k ≤ l.length ∧ ys.length = l.length ∧ Hid (∀ y ∈ ys, y < 256) ∧ Hid (MRow wr g ys) ∧ Hid (Ch w5 wr (fun b => b = g))) (fun iv _ => l.length - (intOf iv).toNat)
  case atStart => exact ⟨0, l, rfl, by omega, rfl, Lib.hid HIN.out.low, HM5, Lib.hid (Ch.refl _ _)⟩
  case round =>
    obtain ⟨k, ys, rfl, hk, hyl, HY, HR, HC⟩ := hrel
    by_cases hkl : k < l.length
    · have ck := HR.out.cell k (by omega)
      have fk := HR.out.free k (by omega)
      have hyb : ys.getD k 0 < 256 := by
        rw [List.getD_eq_getElem?_getD, List.getElem?_eq_getElem (by omega)]; exact HY.out _ (List.getElem_mem _)
      have hup := u8_up _ hyb
      have hcl : l.length ≤ cap := HCAP.out.1
      have HR1 := Lib.hid (HR.out.set k ((ys.getD k 0 + 1) % 256) (by omega))
      have HC1 := Lib.hid (HC.out.setCell (p := ⟨g, k, none⟩) rfl (.int .u8 (((ys.getD k 0 + 1) % 256 : Nat) : Int)))
      have HY1 := Lib.hid (set_lt HY.out (show (ys.getD k 0 + 1) % 256 < 256 by omega) : ∀ x ∈ ys.set k ((ys.getD k 0 + 1) % 256), x < 256)
      have hyl1 : (ys.set k ((ys.getD k 0 + 1) % 256)).length = l.length := by rw [List.length_set]; exact hyl
      generalize (ys.getD k 0 + 1) % 256 = y1 at *
      generalize ys.getD k 0 = y at *
      clear HR HC HY
      go_wp2
      go_roundw
      case rel => exact ⟨k + 1, _, by go_num, by omega, hyl1, HY1, HR1, HC1⟩
      case measure => simp [intOf]; omega
    · have HQ := Lib.hid (HP.out wr _ HS5.out.1 HS5.out.2 (HA.out.fin HF5.out HC.out HIN.out.disk))
      clear HP HR HC HY
      go_wp2
      exact HQ.out
end Go.Proofs.Ytfgbaigpmhnoaaa
