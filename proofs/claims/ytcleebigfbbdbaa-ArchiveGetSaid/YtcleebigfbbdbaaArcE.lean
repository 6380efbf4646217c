/- archive: Put's closures. -/
import Derived.Test.YtcleebigfbbdbaaArcD
import Derived.Deep.RegionLaw
import Derived.Deep.DeepCutAuto
set_option linter.unusedVariables false
set_option linter.unusedSimpArgs false
namespace Go.Proofs.Ytcleebigfbbdbaa
open Go Go.RowKit Go.BigFrame
open Fil (Es Nd Sp)
open Arc (BL num4 num2 encT letK encE encN sizE sizN)

theorem infoU8e : (Try.prog.info? 5).map (fun i => (i.zero, i.size, i.bytes)) = some (some (.int .u8 0), 1, 1) := by kernel_rfl
/-- A box that holds a row of bytes of the call's own, in which there is room. -/
def Bw (w : World) (gb base r cap : Nat) (l : BL) : Prop :=
  w.heap[gb]? = some (.cells #[.slice (some ⟨r, 0, none⟩) l.length cap] 27 (0, 0)) ∧ w.ownsRow base 5 1 (.slice (some ⟨r, 0, none⟩) l.length cap) l.length (valB l) ∧ r ≠ gb
def Two (gb r k : Nat) : Prop := k = gb ∨ k = r
theorem Bw.lt {w : World} {gb base r cap : Nat} {l : BL} (h : Bw w gb base r cap l) : gb < w.heap.size ∧ r < w.heap.size ∧ base ≤ r :=
  ⟨block_lt h.1, (h.2.1.lt r rfl).2, (h.2.1.lt r rfl).1⟩
theorem Bw.ch {w w' : World} {gb base r cap : Nat} {l : BL} {M : Nat → Prop} (h : Bw w gb base r cap l) (hc : Ch w w' M) (h1 : ¬ M gb) (h2 : ¬ M r) : Bw w' gb base r cap l :=
  ⟨hc.heap h.1 h1, hc.own h.2.1 (fun b hb => by cases hb; exact h2), h.2.2⟩
theorem Bw.alloc {w : World} {gb base r cap : Nat} {l : BL} (h : Bw w gb base r cap l) (o : Obj) : Bw (w.alloc o) gb base r cap l :=
  ⟨(old_block _ _ _ (block_lt h.1)).trans h.1, h.2.1.alloc o, h.2.2⟩
theorem Bw.drew {w : World} {gb base r cap : Nat} {l : BL} (h : Bw w gb base r cap l) : Bw w.drew gb base r cap l := ⟨h.1, h.2.1.drew, h.2.2⟩
theorem Bw.cell {w : World} {gb base r cap : Nat} {l : BL} (h : Bw w gb base r cap l) : w.cell? ⟨gb, 0, none⟩ = some (.slice (some ⟨r, 0, none⟩) l.length cap) ∧ w.frozen? ⟨gb, 0, none⟩ = false := by
  refine ⟨?_, frozen_of_row _ _ _ _ _ h.1⟩
  rw [cell_of_row _ _ _ _ _ _ h.1]; rfl
/-- Bytes more in the row, and the box told. -/
theorem Bw.put {w w1 : World} {gb base r cap m : Nat} {l l2 : BL} (h : Bw w gb base r cap l) (hm : l2.length = m) (hown : w1.ownsRow base 5 1 (.slice (some ⟨r, 0, none⟩) (l.length + m) cap) (l.length + m) (valB l ++ valB l2)) (hg : w.grownBy w1 (some r)) :
    Bw (w1.setCell ⟨gb, 0, none⟩ (.slice (some ⟨r, 0, none⟩) (l.length + m) cap)) gb base r cap (l ++ l2) ∧ Ch w (w1.setCell ⟨gb, 0, none⟩ (.slice (some ⟨r, 0, none⟩) (l.length + m) cap)) (Two gb r) := by
  have hne : (Value.slice (some ⟨r, 0, none⟩) (l.length + m) cap).ownBlock ≠ some gb := fun e => h.2.2 (by simpa [Value.ownBlock] using e)
  have hgb : w1.heap[gb]? = _ := (hg.block gb (block_lt h.1) (fun e => h.2.2 (by simpa using e.symm))).trans h.1
  have hlen : (l ++ l2).length = l.length + m := by rw [List.length_append, hm]
  refine ⟨⟨?_, ?_, h.2.2⟩, ?_⟩
  · rw [hlen]; exact Go.Joins.block_setCell (i := 0) hgb _
  · rw [hlen, valB_app]
    exact ownsRow_setCell_other hown (a := ⟨gb, 0, none⟩) hne _
  · exact ((Ch.refl w (Two gb r)).grown hg (fun k _ e => .inr (by simpa using e.symm))).setCell (p := ⟨gb, 0, none⟩) (.inl rfl) _
def BPut (w : World) (gb base r cap : Nat) (l l2 : BL) (w' : World) : Prop := Bw w' gb base r cap (l ++ l2) ∧ Ch w w' (Two gb r)
set_option maxRecDepth 1000000 in
set_option maxRecDepth 100000 in
set_option maxHeartbeats 2000000 in
theorem text1_any (s : ByteArray) (hs : s.size ≤ 1000000000) (w : World) (gb base r cap : Nat) (l : BL) (h : Bw w gb base r cap l) (hr : l.length + (4 + s.size) ≤ cap) :
    Calls Try.prog 25 #[.string s, .pointer (some ⟨gb, 0, none⟩)] w fun e W => e = .returned (.tuple #[]) ∧ BPut w gb base r cap l (encT s) W := by
  obtain ⟨i0, hi, hz0, hz1, hz2⟩ := info_parts infoU8e
  have hz4 : i0.size = 1 := hz1
  obtain ⟨hb3, hx3⟩ := byte_of s.size 16777216 16777216 rfl
  have hy3 := byte_small s.size 16777216 16777216 rfl (by omega)
  obtain ⟨hb2, hx2⟩ := byte_of s.size 65536 65536 rfl
  obtain ⟨hb1, hx1⟩ := byte_of s.size 256 256 rfl
  have hb0 : IntKind.u8.wrap (s.size : Int) = ((UInt8.ofNat s.size).toNat : Int) := by rw [IntKind.wrap_u8, UInt8.toNat_ofNat', Int.natCast_emod]; rfl
  have HN := Lib.hid (show num4 s.size = [UInt8.ofNat (s.size / 16777216), UInt8.ofNat (s.size / 65536), UInt8.ofNat (s.size / 256), UInt8.ofNat s.size] from rfl)
  generalize UInt8.ofNat (s.size / 16777216) = c3 at *
  generalize UInt8.ofNat (s.size / 65536) = c2 at *
  generalize UInt8.ofNat (s.size / 256) = c1 at *
  generalize UInt8.ofNat s.size = c0 at *
  have HBW := Lib.hid h
  have HA := Lib.hid (h.alloc (.cells #[.int .u8 (c3.toNat : Int), .int .u8 (c2.toNat : Int), .int .u8 (c1.toNat : Int), .int .u8 (c0.toNat : Int)] 5))
  obtain ⟨hcl, hfz⟩ := h.cell
  have HNW := Lib.hid (World.news_of_block (heap_alloc_new w (.cells #[.int .u8 (c3.toNat : Int), .int .u8 (c2.toNat : Int), .int .u8 (c1.toNat : Int), .int .u8 (c0.toNat : Int)] 5)))
  have hl4 : (num4 s.size).length = 4 := rfl
  have HV := Lib.hid (show valB (num4 s.size) = [.int .u8 (c3.toNat : Int), .int .u8 (c2.toNat : Int), .int .u8 (c1.toNat : Int), .int .u8 (c0.toNat : Int)] by rw [HN.out]; rfl)
  have HEN := Lib.hid (show encT s = num4 s.size ++ s.data.toList from rfl)
  clear h
  go_enter Try.func25, Try.ntmps25
  go_wp2_with (at_builtin; refine wpList_append_fits _ rfl _ _ 27 rfl base 5 i0 Try.underlying27 hi hz4 r l.length cap (valB l) rfl HA.out.2.1 ⟨w.heap.size, 0, none⟩ 4 4 [.int .u8 (c3.toNat : Int), .int .u8 (c2.toNat : Int), .int .u8 (c1.toNat : Int), .int .u8 (c0.toNat : Int)] rfl rfl HNW.out (by intro u hu; simp at hu; rcases hu with rfl | rfl | rfl | rfl <;> rfl) (by omega) ?_)
  intro w1 hown1 hg1 hzz1
  rw [← HV.out] at hown1
  obtain ⟨hbw1, hch1⟩ := Bw.put HA.out (l2 := num4 s.size) hl4 hown1 hg1
  have hgb1 : w1.heap[gb]? = _ := (hg1.block gb (block_lt HA.out.1) (fun e => HA.out.2.2 (by simpa using e.symm))).trans HA.out.1
  have hfz1 := frozen_of_row w1 gb 0 _ _ hgb1
  have hcl1 : w1.cell? ⟨gb, 0, none⟩ = some (.slice (some ⟨r, 0, none⟩) l.length cap) := by rw [cell_of_row _ _ _ _ _ _ hgb1]; rfl
  obtain ⟨W2, e2⟩ : ∃ W2, W2 = w1.setCell ⟨gb, 0, none⟩ (.slice (some ⟨r, 0, none⟩) (l.length + 4) cap) := ⟨_, rfl⟩
  rw [← e2] at hbw1 hch1
  have HW2 := Lib.hid (And.intro hbw1 hch1)
  clear hbw1 hch1 hown1 hg1 hgb1 hcl hzz1 hfz
  go_upto_region 1 with (fail)
  rw [← e2]
  clear e2 hcl1 hfz1
  obtain ⟨hcl, hfz⟩ := HW2.out.1.cell
  have hlen2 : (l ++ num4 s.size).length = l.length + 4 := by rw [List.length_append, hl4]
  rw [hlen2] at hcl
  have HO2 := Lib.hid (show W2.ownsRow base 5 1 (.slice (some ⟨r, 0, none⟩) (l.length + 4) cap) (l.length + 4) (valB (l ++ num4 s.size)) by have := HW2.out.1.2.1; rw [hlen2] at this; exact this)
  have HL2 := Lib.hid hlen2
  clear hlen2
  go_wp2_with (at_builtin; refine Lib.wpList_append_fits_string _ rfl _ _ 27 9 rfl base 5 i0 Try.underlying27 Try.underlying9 hi hz4 (some ⟨r, 0, none⟩) (l.length + 4) cap (valB (l ++ num4 s.size)) rfl HO2.out s rfl (by omega) (by omega) ?_)
  intro w3 hown3 hg3
  rw [strCells_valB] at hown3
  have hgb3 : w3.heap[gb]? = _ := (hg3.block gb (block_lt HW2.out.1.1) (fun e => HW2.out.1.2.2 (by simpa [Value.ownBlock] using e.symm))).trans HW2.out.1.1
  have hfz3 := frozen_of_row w3 gb 0 _ _ hgb3
  have hcl3 : w3.cell? ⟨gb, 0, none⟩ = some (.slice (some ⟨r, 0, none⟩) (l.length + 4) cap) := by rw [cell_of_row _ _ _ _ _ _ hgb3, HL2.out]; rfl
  have HF := Lib.hid (show BPut w gb base r cap l (encT s) (w3.setCell ⟨gb, 0, none⟩ (.slice (some ⟨r, 0, none⟩) (l.length + 4 + s.size) cap)) from by
    have hx := Bw.put HW2.out.1 (l2 := s.data.toList) (m := s.size) (Lib.size_eq s).symm (by rw [HL2.out]; exact hown3) hg3
    rw [HL2.out] at hx
    refine ⟨?_, ?_⟩
    · rw [HEN.out, ← List.append_assoc]; exact hx.1
    · have h1 : Ch w W2 (Two gb r) := (((Ch.refl w (Two gb r)).alloc _).trans HW2.out.2 (fun k _ hk => hk))
      exact h1.trans hx.2 (fun k _ hk => hk))
  clear hown3 hg3 hgb3 hcl hfz
  go_wp2
  go_end0
  exact ⟨rfl, HF.out⟩
end Go.Proofs.Ytcleebigfbbdbaa
