/- disk: On, walked. -/
import Derived.Test.YtfgbaigpmhnoaaaDskO
set_option linter.unusedVariables false
set_option linter.unusedSimpArgs false
namespace Go.Proofs.Ytfgbaigpmhnoaaa
open Go.RowKit Go.BigFrame Go.Maps
open Dsk (Fl St Ok get put drop used)

theorem names_at (fs : Dsk.FS) (i : Nat) (h : i < fs.length) : (encL (Dsk.names fs))[i]? = some (.string fs[i].1) := by
  unfold encL Dsk.names
  rw [List.getElem?_map, List.getElem?_map, List.getElem?_eq_getElem h]
  show some (encStr fs[i].1.data.toList) = _
  rw [encStr_bytes]
/-- The state when the files are being looked through. -/
def onI (S : St) (ks : List Int) (i : Nat) : St := { S with armed := none, fs := recTo ks S.fs i }
theorem onI_step {S : St} {ks : List Int} {i : Nat} {s : ByteArray} {f : Fl} {k : Int} (h : recFs (recTo ks S.fs i) s f k = recTo ks S.fs (i + 1)) : ({ onI S ks i with fs := recFs (onI S ks i).fs s f k } : St) = onI S ks (i + 1) := by
  unfold onI
  dsimp only
  rw [h]
set_option maxRecDepth 100000 in
set_option maxHeartbeats 4000000 in
theorem on_any (w : World) (base db : Nat) (ro : Nat → Role) (S : St) (A : Option Addr) (cap : Nat) (ks : List Int) (h : DiskAt w base db ro S) (hk : KeepAt w ro A ks) (hkl : ks.length ≤ 1000000000) :
    Calls Try.prog 20 #[.pointer (some ⟨db, 0, none⟩), .slice A ks.length cap] w (DoneR w base db ro (onS S ks) (.tuple #[])) := by
  obtain ⟨mb, n, D, av, hd⟩ := h
  have f4 := hd.free 4
  obtain ⟨_, _, _, _, c4, c5⟩ := hd.cells
  have hb4 : (w.setCell ⟨db, 4, none⟩ (.pointer none)).heap[db]? = some (.cells (diskCells mb (.pointer none) { S with armed := none }) 58 (0, 0)) := by rw [blk_set hd.blk 4 (.pointer none)]; rfl
  have hc4 : Ch w (w.setCell ⟨db, 4, none⟩ (.pointer none)) (fun b => b = db) := (Ch.refl w (fun b => b = db)).setCell (p := ⟨db, 4, none⟩) rfl _
  have hl4 : Left w (w.setCell ⟨db, 4, none⟩ (.pointer none)) base db ro { S with armed := none } ro := Left.flip hd hc4 (av' := .pointer none) hb4 rfl (Nat.le_refl _) (.inl ⟨rfl, rfl⟩) (ok_with hd.ok none S.off (fun k e => by cases e))
  have c5' : (w.setCell ⟨db, 4, none⟩ (.pointer none)).cell? ⟨db, 5, none⟩ = some (.bool S.off) := by rw [blk_cell hb4]; rfl
  have hlen := Nat.le_trans hd.ok.few hd.ok.low
  have hsrt := hd.ok.sorted
  cases hoff : S.off with
  | false =>
    have HQ := Lib.hid (show DoneR w base db ro (onS S ks) (.tuple #[]) (.returned (.tuple #[])) (w.setCell ⟨db, 4, none⟩ (.pointer none)) from ⟨rfl, ro, by unfold onS; rw [if_neg (by rw [hoff]; simp)]; exact hl4⟩)
    generalize DoneR w base db ro (onS S ks) (.tuple #[]) = post at *
    rw [hoff] at c5 c5'
    clear hd hl4 hc4 hb4 hk
    go_enter Try.func20, Try.ntmps20
    go_wp2
    go_end0
    exact HQ.out
  | true =>
    rw [hoff] at c5 c5'
    have HD4 := Lib.hid hd
    obtain ⟨w1, hw1⟩ : ∃ w1, w1 = w.setCell ⟨db, 4, none⟩ (.pointer none) := ⟨_, rfl⟩
    rw [← hw1] at hl4 c5'
    have HL1 := Lib.hid hl4
    have hbs : ∀ b, ro b ≠ .none → b < w.heap.size := fun b hb => (hd.old b hb).2
    have HOLD := Lib.hid hbs
    have HN := Lib.hid (names_any w1 base db ro { S with armed := none } hl4.disk)
    have HK := Lib.hid hk
    have HP := Lib.hid (fun (w' : World) (ro' : Nat → Role) (hl : Left w w' base db ro { S with fs := recAll ks 0 S.fs, armed := none, off := false } ro') => show DoneR w base db ro (onS S ks) (.tuple #[]) (.returned (.tuple #[])) w' from ⟨rfl, ro', by unfold onS; rw [if_pos (by rw [hoff])]; exact hl⟩)
    generalize DoneR w base db ro (onS S ks) (.tuple #[]) = post at *
    have HW1 := Lib.hid hw1
    clear hd hl4 hc4 hb4 hk hbs
    go_enter Try.func20, Try.ntmps20
    go_upto_region 3 with (fail)
    rw [← hw1]
    clear hw1 c5 c4 f4
    go_wp2_with fail
    refine HN.out.mono ?_
    rintro e w2 ⟨hbel, vn, rfl, hrow⟩
    obtain ⟨N, hN⟩ : ∃ N, N = S.fs.length := ⟨_, rfl⟩
    have hrow' : w2.ownsRow w1.heap.size 9 1 vn N (encL (Dsk.names S.fs)) := by rw [hN, ← names_len S.fs]; exact hrow
    have hw1s : w1.heap.size = w.heap.size := by rw [HW1.out]; simp
    have L12 : Left w1 w2 base db ro { S with armed := none } ro := ⟨HL1.out.disk.below hbel, Sub.refl _ _, Ch.of_below hbel _ fun k hk hge => by omega⟩
    have HK2 := Lib.hid ((HK.out.ch HL1.out.ch (fun b e _ h => h e)).ch L12.ch (fun b e _ h => h e))
    have HL2 := Lib.hid (HL1.out.trans L12)
    have hl0 : Left w2 w2 base db ro (onI S ks 0) ro := ⟨by unfold onI; rw [recTo_zero]; exact L12.disk, Sub.refl _ _, Ch.refl _ _⟩
    have HLT := Lib.hid (fun (wr : World) (ro' : Nat → Role) (hl : Left w2 wr base db ro (onI S ks N) ro') (w' : World) (hw : w' = wr.setCell ⟨db, 5, none⟩ (.bool false)) => show post (.returned (.tuple #[])) w' from by
      obtain ⟨mb', n', D', av', hdi⟩ := hl.disk
      have hf : Left wr w' base db ro' { onI S ks N with off := false } ro' := by
        rw [hw]
        refine Left.flip hdi ((Ch.refl wr (fun b => b = db)).setCell (p := ⟨db, 5, none⟩) rfl _) (av' := av') (by rw [blk_set hdi.blk 5 (.bool false)]; rfl) rfl (Nat.le_refl _) ?_ (ok_with hdi.ok none false (fun k e => by cases e))
        exact hdi.arm.ch ((Ch.refl wr (fun b => b = db)).setCell (p := ⟨db, 5, none⟩) rfl _) (fun b hb e => by rw [e, hdi.rdb] at hb; cases hb)
      refine HP.out w' ro' ((HL2.out.trans hl).trans ?_)
      have e : ({ onI S ks N with off := false } : St) = { S with fs := recAll ks 0 S.fs, armed := none, off := false } := by unfold onI; rw [hN, recTo_end]
      rw [← e]; exact hf)
    obtain ⟨An, capn, rfl⟩ := own_sl hrow'
    have HROW := Lib.hid hrow'
    have HSRT := Lib.hid hsrt
    have hNl : N ≤ 1000000000 := by rw [hN]; exact hlen
    have HL0 := Lib.hid hl0
    have HLEN := Lib.hid hN
    clear hrow hrow' hbel L12 hl0 hsrt HN HK HL1 HL2 HP HW1 c5' hN hlen
    go_wp2
    go_loopw [4, 5, 6, 20] (fun _ _ _ iv wr => ∃ (i : Nat) (roi : Nat → Role), iv = .int .i64 (i : Int) ∧ i ≤ N ∧ Hid (Left w2 wr base db ro (onI S ks i) roi)) (fun _ _ _ iv _ => N - (intOf iv).toNat)
    case atStart => exact ⟨0, ro, rfl, by omega, HL0⟩
    case round =>
      obtain ⟨i, roi, rfl, hi, HL⟩ := hrel
      by_cases hlt : i < N
      · have hif : i < S.fs.length := by rw [← HLEN.out]; exact hlt
        have hrr : wr.ownsRow w1.heap.size 9 1 (.slice An N capn) N (encL (Dsk.names S.fs)) := HL.out.ch.own HROW.out fun b hb hO => by
          have h1 := (HROW.out.lt b hb).1
          have h2 := HOLD.out b hO
          omega
        obtain ⟨g, capn', he, _⟩ := own_at HROW.out (by omega)
        simp only [Value.slice.injEq, true_and] at he
        obtain ⟨rfl, rfl⟩ := he
        have hcn : wr.cell? ⟨g, i, none⟩ = some (.string S.fs[i].1) := by rw [hrr.cellAt i (by omega)]; exact names_at _ _ hif
        obtain ⟨mb', n', D', av', hdi⟩ := HL.out.disk
        obtain ⟨hst1, hst2⟩ := recTo_step ks HSRT.out i hif
        have hsz : (S.fs[i].1).size ≤ maxLen := by have := (hdi.ok.file _ _ hst1).2.2.2.2; unfold maxLen; omega
        have HR := Lib.hid (recover_any wr base db mb' n' D' av' roi (onI S ks i) S.fs[i].1 S.fs[i].2 (ks.getD i 0) hdi hst1 hsz)
        have HKr := Lib.hid (HK2.out.ch HL.out.ch (fun b e _ h => h e))
        have HST := Lib.hid (onI_step hst2)
        generalize S.fs[i].1 = nm at *
        generalize hkv : ks.getD i 0 = kv at *
        generalize hKL : ks.length = kl at *
        clear hdi hst1 hst2 hrr
        by_cases hki : i < kl
        · obtain ⟨ad, rfl, _, hck⟩ := HKr.out i (by omega)
          rw [hkv] at hck
          go_wp2_with fail
          refine HR.out.mono ?_
          rintro e w4 ⟨rfl, ro4, hl4⟩
          have HL4 := Lib.hid (show Left w2 w4 base db ro (onI S ks (i + 1)) ro4 from HL.out.trans (by rw [HST.out] at hl4; exact hl4))
          clear hl4 HR HL HST
          go_wp2
          go_roundw
          case rel => exact ⟨i + 1, ro4, by go_num, by omega, HL4⟩
          case measure => simp [intOf]; omega
        · have hk0 : kv = 0 := by rw [← hkv, List.getD_eq_getElem?_getD, List.getElem?_eq_none (by omega)]; rfl
          subst hk0
          go_wp2_with fail
          refine HR.out.mono ?_
          rintro e w4 ⟨rfl, ro4, hl4⟩
          have HL4 := Lib.hid (show Left w2 w4 base db ro (onI S ks (i + 1)) ro4 from HL.out.trans (by rw [HST.out] at hl4; exact hl4))
          clear hl4 HR HL HST
          go_wp2
          go_roundw
          case rel => exact ⟨i + 1, ro4, by go_num, by omega, HL4⟩
          case measure => simp [intOf]; omega
      · obtain rfl : i = N := by omega
        obtain ⟨mb', n', D', av', hdi⟩ := HL.out.disk
        have f5 := hdi.free 5
        obtain ⟨_, _, _, _, _, c5⟩ := hdi.cells
        have HQ := Lib.hid (HLT.out wr roi HL.out _ rfl)
        clear hdi HLT HL HL0
        go_wp2
        go_end0
        exact HQ.out
end Go.Proofs.Ytfgbaigpmhnoaaa
