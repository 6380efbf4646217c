/- disk: a loop that spoils a row of bytes of one's own; texts of rows. -/
import Derived.Test.YtfgbaigpmhnoaaaDmL
import Derived.Test.YtfgbaigpmhnoaaaDmSi
import Derived.Laws.OwnMore
import Derived.BigQuiet
set_option linter.unusedVariables false
set_option linter.unusedSimpArgs false
namespace Go.Proofs.Ytfgbaigpmhnoaaa
open Go.RowKit Go.BigFrame Go.Maps
open Dsk (Fl St Ok get put drop used)

theorem conv_bat {w : World} {Q : Nat → Prop} {v : Value} {l : List Nat} (h : BAt w Q v l) (hl : ∀ x ∈ l, x < 256) : (convert 29 9 v).run Try.prog w = .ok (.string (strOf (l.map UInt8.ofNat))) w := by
  obtain ⟨A, cap, e, h1, h2, h3, h4⟩ := h
  subst e
  have hh : Holds w w.heap.size A l.length (fun i => l.getD i 0) := fun h0 => by
    obtain ⟨ad, e1, _, hb, hc⟩ := h4 h0
    exact ⟨ad, e1, hb, hc⟩
  have hd : ∀ i, (fun i => l.getD i 0) i < 256 := fun i => by
    dsimp only
    by_cases hi : i < l.length
    · rw [List.getD_eq_getElem?_getD, List.getElem?_eq_getElem hi]; exact hl _ (List.getElem_mem _)
    · rw [List.getD_eq_getElem?_getD, List.getElem?_eq_none (by omega)]; decide
  have := convert_holds hd hh h3 h1 Try.underlying29 Try.underlying5 Try.underlying9
  have e : txt (fun i => l.getD i 0) l.length = l.map UInt8.ofNat := by
    unfold txt
    apply List.ext_getElem?
    intro j
    by_cases hj : j < l.length
    · rw [List.getElem?_map, List.getElem?_map, List.getElem?_range hj, List.getElem?_eq_getElem hj]; simp [List.getD, hj]
    · rw [List.getElem?_eq_none (by simp; omega), List.getElem?_eq_none (by simp; omega)]
  rw [this, e]
theorem bvs_set (l : List Nat) (k v : Nat) : (bvs l).set k (.int .u8 (v : Int)) = bvs (l.set k v) := by unfold bvs; rw [List.map_set]
theorem u8_up (y : Nat) (h : y < 256) : IntKind.u8.wrap ((y : Int) + 1) = (((y + 1) % 256 : Nat) : Int) := by
  by_cases e : y = 255
  · subst e; rfl
  · rw [show (y + 1) % 256 = y + 1 by omega]
    simp [IntKind.wrap, IntKind.signed, IntKind.bits]
    omega
theorem set_lt {l : List Nat} {k v : Nat} (h : ∀ x ∈ l, x < 256) (hv : v < 256) : ∀ x ∈ l.set k v, x < 256 := by
  intro x hx
  rcases List.mem_or_eq_of_mem_set hx with hx | hx
  · exact h x hx
  · subst hx; exact hv
end Go.Proofs.Ytfgbaigpmhnoaaa

/- disk: tells. -/
namespace Go.Proofs.Ytfgbaigpmhnoaaa
open Go.RowKit Go.BigFrame Go.Maps
open Dsk (Fl St Ok get put drop used)

theorem names_get (fs : Dsk.FS) (j : Nat) (h : j < fs.length) : (encL (Dsk.names fs))[j]? = some (.string fs[j].1) := names_at fs j h
theorem ref_gone {S : St} {s : ByteArray} {f : Fl} (hok : Ok S) (hg : get S.fs s = some f) : (S.off = true → readC S s = 40 ∧ readB S s = []) ∧ (S.off = false → readC S s = 0 ∧ readB S s = f.b) := by
  have hf := hok.file s f hg
  refine ⟨fun ho => ?_, fun ho => ?_⟩
  · have : refC S [s] = 40 := by unfold refC; rw [if_pos ho]
    unfold readC readB
    rw [this]
    exact ⟨by simp, by simp⟩
  · have : refC S [s] = 0 := by
      unfold refC
      rw [if_neg (by rw [ho]; simp), if_pos (by simp [nameOk, hf.2.2.2.1, hf.2.2.2.2])]
    unfold readC readB getF
    rw [this, hg]
    exact ⟨by simp, by simp⟩
set_option maxRecDepth 100000 in
set_option maxHeartbeats 8000000 in
theorem tells_any (w : World) (base db rbase rb : Nat) (ro : Nat → Role) (P : Nat → Prop) (S : St) (hd : DiskAt w base db ro S) (hr : RefAt w rbase P rb S) :
    Calls Try.prog 14 #[.pointer (some ⟨db, 0, none⟩), .pointer (some ⟨rb, 0, none⟩)] w (YesPost w) := by
  have HP := Lib.hid (fun (w' : World) (hb : Below w.heap.size w w') => show YesPost w (.returned (.bool true)) w' from ⟨rfl, hb⟩)
  generalize YesPost w = post at *
  have hok : Ok S := by obtain ⟨_, _, _, _, h⟩ := hd; exact h.ok
  have HOK := Lib.hid hok
  have HD := Lib.hid hd
  have HR := Lib.hid hr
  have HN := Lib.hid (names_any w base db ro S hd)
  obtain ⟨fv, iv, es, hri⟩ := hr
  have hN : es.length = S.fs.length := by rw [← hri.fs, fsOf_len]
  have hNl : S.fs.length ≤ 1000000000 := Nat.le_trans hok.few hok.low
  have hub := hok.sum
  have HRI := Lib.hid hri
  have HNN := Lib.hid hN
  clear hd hri hok
  go_enter Try.func14, Try.ntmps14
  go_wp2_with fail
  refine HN.out.mono ?_
  rintro e w1 ⟨hb1, vl, rfl, hl⟩
  rw [names_len] at hl
  obtain ⟨N, hNe⟩ : ∃ N, N = S.fs.length := ⟨_, rfl⟩
  rw [← hNe] at hl hNl hN
  obtain ⟨Al, cl, rfl⟩ := own_sl hl
  have HL := Lib.hid hl
  have HB1 := Lib.hid hb1
  have hri1 := HRI.out.below hb1
  obtain ⟨A, cap, hfv, hlc, hcm⟩ := hri1.row.slice
  subst hfv
  rw [hN] at hlc hri1
  unfold maxLen at hcm
  obtain ⟨r0, _, r2, _, _, r5⟩ := hri1.cells
  have hu1 : ∀ q, Calls Try.prog 24 #[.pointer (some ⟨db, 0, none⟩)] (w1.drewN q) fun e w' => e = .returned (.int .i64 (used S.fs : Int)) ∧ w' = w1.drewN q := fun q => used_any _ base db ro S (HD.out.below (below_drewN hb1 q))
  have hu2 : ∀ q, Calls Try.prog 37 #[.pointer (some ⟨rb, 0, none⟩)] (w1.drewN q) fun e w' => e = .returned (.int .i64 (used S.fs : Int)) ∧ w' = w1.drewN q := fun q => (rused_any (HR.out.below (below_drewN hb1 q)) hub).mono fun e w' ⟨h1, h2⟩ => ⟨h1, h2.symm⟩
  have hu3 : ∀ q, Calls Try.prog 27 #[.pointer (some ⟨db, 0, none⟩)] (w1.drewN q) fun e w' => e = .returned (.int .i64 (S.steps : Int)) ∧ w' = w1.drewN q := fun q => steps_any _ base db ro S (HD.out.below (below_drewN hb1 q))
  have hu4 : ∀ q, Calls Try.prog 16 #[.pointer (some ⟨db, 0, none⟩)] (w1.drewN q) fun e w' => e = .returned (.bool S.off) ∧ w' = w1.drewN q := fun q => off_any _ base db ro S (HD.out.below (below_drewN hb1 q))
  have HU1 := Lib.hid hu1
  have HU2 := Lib.hid hu2
  have HU3 := Lib.hid hu3
  have HU4 := Lib.hid hu4
  have HFV := Lib.hid hri1.row
  have HRL := Lib.hid hri1.lt
  clear hl hb1 hri1 hN hu1 hu2 hu3 hu4 HN
  generalize hus : used S.fs = us at *
  generalize hste : S.steps = ste at *
  generalize hoff : S.off = off at *
  have HOFF := Lib.hid hoff
  have HNE := Lib.hid hNe
  clear hus hste hoff hNe
  go_wp2_with fail
  go_quiet ((first | (go_at_call 24; exact Calls.quiet_of_same (HU1.out _)) | (go_at_call 37; exact Calls.quiet_of_same (HU2.out _)) | (go_at_call 27; exact Calls.quiet_of_same (HU3.out _)) | (go_at_call 16; exact Calls.quiet_of_same (HU4.out _))))
  generalize hw2 : w1.drewN nq = w2
  have hc2 : Ch w1 w2 (fun _ => False) := hw2 ▸ (Ch.refl w1 _).drewN nq
  have HL2 := Lib.hid (hc2.own HL.out (fun _ _ h => h))
  have hz1 := HB1.out.size
  have HB2 := Lib.hid (HB1.out.trans (hc2.below hz1 (fun _ h => h.elim)))
  clear hw2 hc2 HU1 HU2 HU3 HU4 HL HFV r0 r2 r5
  go_wp2
  go_loopw [6, 7, 8, 9, 10, 11] (fun iv _ _ _ _ _ wr => ∃ (i : Nat) (xs : List Value), iv = .int .i64 (i : Int) ∧ i ≤ N ∧ Hid (wr.ownsRow w.heap.size 9 1 (.slice Al N cl) N xs) ∧ Hid (∀ j, i ≤ j → j < N → xs[j]? = (encL (Dsk.names S.fs))[j]?) ∧ Hid (Below w.heap.size w wr)) (fun iv _ _ _ _ _ _ => N - (intOf iv).toNat)
  case atStart => exact ⟨0, _, rfl, by omega, HL2, Lib.hid (fun _ _ _ => rfl), HB2⟩
  case round =>
    obtain ⟨i, xs, rfl, hi, HLx, HX, HB⟩ := hrel
    have hwz := HB.out.size
    by_cases hlt : i < N
    · obtain ⟨g, cl', he, hgw, hgl, hncl, hclm⟩ := own_at HLx.out (by omega)
      simp only [Value.slice.injEq, true_and] at he
      obtain ⟨rfl, rfl⟩ := he
      have hif : i < S.fs.length := by rw [← HNE.out]; exact hlt
      have hie : i < es.length := by rw [HNN.out]; exact hif
      have hlc1 : wr.cell? ⟨g, i, none⟩ = some (.string S.fs[i].1) := by rw [HLx.out.cellAt i (by omega), HX.out i (Nat.le_refl _) hlt]; exact names_get _ _ hif
      have hriR := HRI.out.below HB.out
      obtain ⟨ad, rfl, g0, g9⟩ := hriR.row.cells hie
      clear g9
      have hes : es[i].s = S.fs[i].1 := by
        have := fsOf_get es i hie
        simp only [HRI.out.fs] at this
        rw [this]
      rw [hes] at g0
      have c0 := hriR.cells.1
      rw [HNN.out, ← HNE.out] at c0
      have hgs : get S.fs S.fs[i].1 = some S.fs[i].2 := Dsk.mem_get HOK.out.sorted (List.getElem_mem _)
      have hfok := HOK.out.file _ _ hgs
      have hrg := ref_gone HOK.out hgs
      have HRG := Lib.hid hrg
      have hLB : ∀ x ∈ readB S S.fs[i].1, x < 256 := by
        intro x hx
        cases ho : S.off with
        | true => rw [(hrg.1 ho).2] at hx; simp at hx
        | false => rw [(hrg.2 ho).2] at hx; exact hfok.2.1 x hx
      have hLN : (readB S S.fs[i].1).length ≤ 8388608 := by
        cases ho : S.off with
        | true => rw [(hrg.1 ho).2]; exact Nat.zero_le _
        | false => rw [(hrg.2 ho).2]; exact hfok.2.2.1
      have hsz : (S.fs[i].1).size ≤ maxLen := by have := hfok.2.2.2.2; unfold maxLen; omega
      have HRD := Lib.hid (fun q => read_any (wr.drewN q) base db ro S S.fs[i].1 (HD.out.below (below_drewN HB.out q)) hsz)
      have HRR := Lib.hid (fun (w' : World) (hb : Below w.heap.size w w') => rread_any (HR.out.below hb) S.fs[i].1 hsz)
      unfold ReadPost at HRD
      unfold RReadPost at HRR
      clear hriR hes hgs hfok hrg HRG
      generalize S.fs[i].1 = nm at *
      generalize hLe : readB S nm = L at *
      generalize readC S nm = cc at *
      have heq : (nm.toList == nm.toList) = true := by simp
      have HLB := Lib.hid hLB
      clear hLB hLe hif hie
      go_wp2_with fail
      go_quiet (fail)
      generalize hw3 : wr.drewN nq = w3
      have hc3 : Ch wr w3 (fun _ => False) := hw3 ▸ (Ch.refl wr _).drewN nq
      have hL3 := hc3.own HLx.out (fun _ _ h => h)
      have HB3 := Lib.hid (HB.out.trans (hc3.below hwz (fun _ h => h.elim)))
      have lc3 := hc3.cell hlc1 (fun h => h)
      have hz3 := hc3.size
      have HRD3 := Lib.hid (HRD.out nq)
      rw [hw3] at HRD3
      have HL3 := Lib.hid hL3
      have HC3 := Lib.hid lc3
      clear hw3 hc3 hL3 hlc1 g0 c0 HRD
      go_wp2_with fail
      refine HRD3.out.mono ?_
      rintro e w4 ⟨hb4, v4, rfl, hrow4⟩
      have lc4 := (hb4.cell (p := ⟨g, i, none⟩) (by show g < _; omega)).trans HC3.out
      have hB4 := below_step HB3.out hb4 (by omega)
      have HRR4 := Lib.hid (HRR.out w4 hB4)
      have HB4 := Lib.hid hB4
      have HH4 := Lib.hid (And.intro hb4 hrow4)
      have hz4 := hb4.size
      clear hb4 hrow4 hB4 lc3 HRR HRD3
      go_wp2_with fail
      refine HRR4.out.mono ?_
      rintro e w5 ⟨hb5, v5, rfl, hrow5⟩
      have hrow4' : w5.ownsRow w3.heap.size 5 1 v4 L.length (bvs L) := (Ch.of_below hb5 (fun b => w4.heap.size ≤ b) (fun _ _ hk => hk)).own HH4.out.2 (fun b hb hM => by have := (HH4.out.2.lt b hb).2; omega)
      have hL5 : w5.ownsRow w.heap.size 9 1 (.slice (some ⟨g, 0, none⟩) N cl) N xs := by
        have h4 := (Ch.of_below HH4.out.1 (fun b => w3.heap.size ≤ b) (fun _ _ hk => hk)).own HL3.out (fun b hb hM => by have := (HL3.out.lt b hb).2; omega)
        exact (Ch.of_below hb5 (fun b => w4.heap.size ≤ b) (fun _ _ hk => hk)).own h4 (fun b hb hM => by have := (h4.lt b hb).2; omega)
      have cv4 := conv_row hrow4' rfl HLB.out
      have cv5 := conv_bat hrow5 HLB.out
      have HR4 := Lib.hid hrow4'
      have HL5 := Lib.hid hL5
      have HB5 := Lib.hid (below_step HB4.out hb5 (by omega))
      obtain ⟨A4, c4, rfl⟩ := own_sl hrow4'
      obtain ⟨A5, c5, hv5, _, _⟩ := hrow5.slice
      subst hv5
      have hz5 := hb5.size
      have hg3 : g < w3.heap.size := by omega
      obtain ⟨M, hM⟩ : ∃ M, M = L.length := ⟨_, rfl⟩
      have HM := Lib.hid hM
      generalize strOf (L.map UInt8.ofNat) = str at *
      rw [← hM] at cv4 cv5 HR4 hLN ⊢
      have hstr : (str.toList == str.toList) = true := by simp
      clear hb5 hrow5 hrow4' hL5 HRR4 HH4 HL3 HC3 HB4 lc4 hM
      go_wp2
      obtain ⟨wo, rfl⟩ : ∃ wo : World, wo = wr := ⟨_, rfl⟩
      go_loopw [11] (fun kv wr => ∃ (k : Nat) (ys : List Nat), kv = .int .i64 (k : Int) ∧ k ≤ M ∧ ys.length = M ∧ Hid (∀ y ∈ ys, y < 256) ∧ Hid (wr.ownsRow w3.heap.size 5 1 (.slice A4 M c4) M (bvs ys)) ∧ Hid (Ch w5 wr (fun b => (Value.slice A4 M c4).ownBlock = some b))) (fun kv _ => M - (intOf kv).toNat)
      case atStart => exact ⟨0, L, rfl, by omega, HM.out.symm, HLB, HR4, Lib.hid (Ch.refl _ _)⟩
      case round =>
        obtain ⟨k, ys, rfl, hk, hyl, HY, HRk, HCk⟩ := hrel
        by_cases hkl : k < M
        · obtain ⟨g4, c4', he4, hg4w, hg4l, hnc4, hcm4⟩ := own_at HRk.out (by omega)
          simp only [Value.slice.injEq, true_and] at he4
          obtain ⟨rfl, rfl⟩ := he4
          obtain ⟨y, hy⟩ : ∃ y, ys[k]? = some y := ⟨_, List.getElem?_eq_getElem (by omega)⟩
          have hyb : y < 256 := HY.out y (List.mem_of_getElem? hy)
          have ck : wr.cell? ⟨g4, k, none⟩ = some (.int .u8 (y : Int)) := by rw [HRk.out.cellAt k (by omega)]; unfold bvs; rw [List.getElem?_map, hy]; rfl
          have fk := HRk.out.frozenAt k
          have hup := u8_up y hyb
          have hst := (HRk.out.stored k (.int .u8 (((y + 1) % 256 : Nat) : Int))).1
          rw [bvs_set] at hst
          have HR1 := Lib.hid hst
          have HC1 := Lib.hid (HCk.out.setCell (p := ⟨g4, k, none⟩) rfl (.int .u8 (((y + 1) % 256 : Nat) : Int)))
          have HY1 := Lib.hid (set_lt HY.out (show (y + 1) % 256 < 256 by omega) : ∀ x ∈ ys.set k ((y + 1) % 256), x < 256)
          have hyl1 : (ys.set k ((y + 1) % 256)).length = M := by rw [List.length_set]; exact hyl
          generalize (y + 1) % 256 = y1 at *
          clear hst hy HRk HCk HY
          go_wp2
          go_roundw
          case rel => exact ⟨k + 1, _, by go_num, by omega, hyl1, HY1, HR1, HC1⟩
          case measure => simp [intOf]; omega
        · have hL6 := HCk.out.own HL5.out (fun b hb hM => by
            have h1 := (HRk.out.lt b hM).1
            have h2 : g = b := Option.some.inj hb
            omega)
          have fl := hL6.frozenAt i
          have cl6 : ∃ u, wr.cell? ⟨g, i, none⟩ = some u := by
            have := hL6.cellAt i (by omega)
            rw [this]
            exact ⟨_, List.getElem?_eq_getElem (by have := hL6.1; omega)⟩
          obtain ⟨u6, cl6⟩ := cl6
          have hst := (hL6.stored i (.string ⟨#[]⟩)).1
          have HL7 := Lib.hid hst
          have HX7 := Lib.hid (show ∀ j, i + 1 ≤ j → j < N → (xs.set i (.string ⟨#[]⟩))[j]? = (encL (Dsk.names S.fs))[j]? from fun j hj hjn => by rw [List.getElem?_set_ne (by omega)]; exact HX.out j (by omega) hjn)
          have HB7 := Lib.hid (show Below w.heap.size w (wr.setCell ⟨g, i, none⟩ (.string ⟨#[]⟩)) from (HB5.out.trans (HCk.out.below (by omega) (fun q hq => by have := (HRk.out.lt q hq).1; omega))).setCell (by show w.heap.size ≤ g; omega) _)
          clear hL6 hst HCk HRk HX HB HLx HL5 HB5 HR4
          go_wp2
          go_roundw
          case rel => exact ⟨i + 1, _, by go_num, by omega, HL7, HX7, HB7⟩
          case measure => simp [intOf]; omega
    · obtain rfl : i = N := by omega
      have HQ := Lib.hid (HP.out wr HB.out)
      clear HP HB HLx HX HL2 HB2
      go_wp2
      exact HQ.out
end Go.Proofs.Ytfgbaigpmhnoaaa
