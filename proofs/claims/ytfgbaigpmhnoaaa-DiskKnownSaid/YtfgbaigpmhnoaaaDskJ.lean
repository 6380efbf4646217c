/- disk: Sync, Read. -/
import Derived.Test.YtfgbaigpmhnoaaaDskI
set_option linter.unusedVariables false
set_option linter.unusedSimpArgs false
namespace Go.Proofs.Ytfgbaigpmhnoaaa
open Go.RowKit Go.BigFrame Go.Maps
open Dsk (Fl St Ok get put drop used)

/-- A file that is there has other bytes. -/
theorem DiskIn.fileTurn {w w' : World} {base db mb n : Nat} {D : DataW Unit} {av : Value} {ro : Nat → Role} {S S' : St} (h : DiskIn w base db mb n D av ro S) {s : ByteArray} {fb : Nat} {v v' : Value} {f f' : Fl} (hg : get S.fs s = some f) (hat : D.atKey (kS s) .nil = .lit (.int .i64 ((fb : Nat) : Int))) (hfa : FileAt w base ro s fb v f)
    (hc : Ch w w' (fun b => b = fb ∨ b = db)) (hb : w'.heap[db]? = some (.cells (diskCells mb av S') 58 (0, 0))) (hblk : w'.heap[fb]? = some (.cells #[v', .int .i64 (f'.sure : Int), .bool f'.ever] 64 (0, 0))) (hrow : w'.ownsRow base 5 1 v' f'.b.length (bvs f'.b))
    (hv : ∀ g, v'.ownBlock = some g → v.ownBlock = some g) (hfs : S'.fs = put S.fs s f') (hst : S.steps ≤ S'.steps) (harm : S'.armed = S.armed) (hok : Ok S') : DiskIn w' base db mb n D av (roPut ro s fb v') S' ∧ Left w w' base db ro S' (roPut ro s fb v') := by
  have hfd : fb ≠ db := fun e => by have := hfa.rfb; rw [e, h.rdb] at this; cases this
  have hfm : fb ≠ mb := fun e => by have := hfa.rfb; rw [e, h.rmb] at this; cases this
  have hmd : mb ≠ db := fun e => by have := h.rmb; rw [e, h.rdb] at this; cases this
  have hh := h.has s
  rw [hg] at hh
  obtain ⟨g1, g2⟩ := h.putIn (S' := S') (n' := n) (D' := D) s fb v' f' hc (fun b _ hM => by
      rcases hM with e | e
      · subst e; exact .inr (.inr (.inl hfa.rfb))
      · subst e; exact .inl h.rdb) hfa.rfb ⟨(h.old fb (by rw [hfa.rfb]; simp)).1, Nat.lt_of_lt_of_le (block_lt hfa.blk) hc.size⟩
    (fun g e => ⟨fun e' => (by have := hfa.rrow g (hv g e); rw [e', hfa.rfb] at this; cases this), .inl (hfa.rrow g (hv g e))⟩) hb hblk hrow (own_map_ch h.own hc (fun hM => by rcases hM with e | e; exact hfm e.symm; exact hmd e)) (Nat.le_trans h.bnd hst) (fun _ _ => ⟨rfl, rfl⟩) hfs hh hat harm hok
  exact ⟨g1, ⟨mb, n, D, av, g1⟩, g2, hc.weak fun b _ hM => by
    unfold Own
    rcases hM with e | e
    · subst e; rw [hfa.rfb]; simp
    · subst e; rw [h.rdb]; simp⟩
def settleF (f : Fl) : Fl := { f with sure := f.b.length, ever := true }
theorem ok_settle {S : St} (h : Ok S) {s : ByteArray} {f : Fl} (hg : get S.fs s = some f) (f' : Fl) (hs : f'.sure ≤ f'.b.length) (hb : ∀ x ∈ f'.b, x < 256) (hl : f'.b.length ≤ f.b.length) : Ok { S with fs := put S.fs s f' } := by
  have hf := h.file s f hg
  have hu := Dsk.used_put S.fs s f' h.sorted
  rw [hg] at hu
  simp only [Dsk.lenO] at hu
  have hfit := h.fit
  have hsum := h.sum
  have hle := Dsk.len_le hg
  exact ok_put h s f' hs hb (by omega) hf.2.2.2.1 hf.2.2.2.2 (used (put S.fs s f')) rfl (by omega) (by omega) (by rw [Dsk.len_put_in _ _ _ _ h.sorted hg]; exact h.few)
theorem settled_done {w : World} {base db mb n : Nat} {D : DataW Unit} {av : Value} {ro : Nat → Role} {S : St} (h : DiskIn w base db mb n D av ro S) {s : ByteArray} {fb : Nat} {v : Value} {f : Fl} (hg : get S.fs s = some f) (hat : D.atKey (kS s) .nil = .lit (.int .i64 ((fb : Nat) : Int))) (hfa : FileAt w base ro s fb v f) :
    DiskIn (settled w fb f.b.length) base db mb n D av (roPut ro s fb v) { S with fs := put S.fs s (settleF f) } ∧ Left w (settled w fb f.b.length) base db ro { S with fs := put S.fs s (settleF f) } (roPut ro s fb v) := by
  have hfd : fb ≠ db := fun e => by have := hfa.rfb; rw [e, h.rdb] at this; cases this
  have hc := settled_ch w fb f.b.length
  have hu := Dsk.used_put S.fs s (settleF f) h.ok.sorted
  rw [hg] at hu
  simp only [Dsk.lenO] at hu
  have hu2 : used (put S.fs s (settleF f)) = used S.fs := by unfold settleF at hu ⊢; dsimp only at hu; omega
  refine h.fileTurn (f' := settleF f) hg hat hfa (hc.weak fun _ _ e => .inl e) ?_ (settled_blk hfa.blk) (hc.own hfa.row fun b hb hM => ?_) (fun g hg => hg) rfl (Nat.le_refl _) rfl (ok_settle h.ok hg _ (Nat.le_refl _) (h.ok.file s f hg).2.1 (Nat.le_refl _))
  · rw [hc.heap h.blk (Ne.symm hfd)]
    unfold diskCells
    dsimp only
    rw [hu2]
  · subst hM; have := hfa.rrow _ hb; rw [hfa.rfb] at this; cases this
/-- Sync. -/
def syncS (S : St) (s : ByteArray) : St := if refC S [s] ≠ 0 then S else match get S.fs s with
  | none => S
  | some f => stepEnd S { plus1 S with fs := put S.fs s (settleF f) } false
def syncC (S : St) (s : ByteArray) : Int := if refC S [s] ≠ 0 then refC S [s] else match get S.fs s with
  | none => 5
  | some _ => stepC S.armed
set_option maxRecDepth 100000 in
set_option maxHeartbeats 1600000 in
theorem sync_any (w : World) (base db : Nat) (ro : Nat → Role) (S : St) (s : ByteArray) (h : DiskAt w base db ro S) (hs : s.size ≤ maxLen) (hst : S.steps < 1000000000) :
    Calls Try.prog 18 #[.pointer (some ⟨db, 0, none⟩), .string s] w (DoneR w base db ro (syncS S s) (.int .i64 (syncC S s))) := by
  have HP := Lib.hid (fun (c : Int) (w' : World) (hc : c = syncC S s) (S' : St) (hS : S' = syncS S s) (ro1 : Nat → Role) (hl : Left w w' base db ro S' ro1) => show DoneR w base db ro (syncS S s) (.int .i64 (syncC S s)) (.returned (.int .i64 c)) w' from ⟨by rw [hc], ro1, hS ▸ hl⟩)
  generalize DoneR w base db ro (syncS S s) (.int .i64 (syncC S s)) = post at *
  have hb1 : Below w.heap.size w (w.alloc (.cells #[.string s] 9)) := (Below.refl _ _).alloc (Nat.le_refl _) _
  obtain ⟨mb, n, D, av, hd⟩ := h.below hb1
  have HF := Lib.hid (find_any (w.alloc (.cells #[.string s] 9)) base db mb n D av ro S _ [s] hd (nrow_one w s hs) (by simp))
  unfold FindPost at HF
  have HD := Lib.hid hd
  have HL0 := Lib.hid (fun nq => Left.below h (below_drewN hb1 nq))
  have HST := Lib.hid hst
  clear hb1 hd h
  go_enter Try.func18, Try.ntmps18
  go_wp2_with fail
  refine HF.out.mono ?_
  rintro e w1 ⟨⟨nq, hw1⟩, hcase⟩
  have HW1 := Lib.hid hw1
  clear hw1
  rcases hcase with ⟨hc, rfl⟩ | ⟨hc, hg, rfl⟩ | ⟨hc, f, fb, v, hg, rfl, hat, hfa⟩
  · have HQ := Lib.hid (HP.out (refC S [s]) w1 (by unfold syncC; rw [if_pos hc]) S (by unfold syncS; rw [if_pos hc]) ro (HW1.out ▸ HL0.out nq))
    obtain ⟨cc, hcc⟩ : ∃ cc, cc = refC S [s] := ⟨_, rfl⟩
    rw [← hcc] at HQ hc ⊢
    have hc1 : (cc == 0) = false := by simpa using hc
    have hc2 : (cc != 0) = true := by simpa using hc
    clear hcc HP HF
    go_wp2
    exact HQ.out
  · have hg' : get S.fs s = none := hg
    have HQ := Lib.hid (HP.out 5 w1 (by unfold syncC; rw [if_neg (by simpa using hc), hg']) S (by unfold syncS; rw [if_neg (by simpa using hc), hg']) ro (HW1.out ▸ HL0.out nq))
    clear hg hg' hc HP HF
    go_wp2
    exact HQ.out
  · have hg' : get S.fs s = some f := hg
    have hd1 : DiskIn w1 base db mb n D av ro S := HW1.out ▸ HD.out.drewN nq
    have hfa1 : FileAt w1 base ro s fb v f := hfa.ch (HW1.out ▸ (Ch.refl _ (fun _ => False)).drewN nq) (fun _ _ h => h)
    obtain ⟨Af, capf, rfl⟩ := own_sl hfa.row
    have hdp := hd1.plus HST.out
    have hfp : FileAt (world1 w1 db S) base ro s fb (.slice Af f.b.length capf) f := hfa1.ch ((Ch.refl w1 (fun b => b = db)).setCell (p := ⟨db, 3, none⟩) rfl _) (fun b hb hM => by subst hM; rw [hd1.rdb] at hb; rcases hb with hb | hb <;> cases hb)
    have hdo : Calls Try.prog 43 #[.pointer (some ⟨fb, 0, none⟩)] (world1 w1 db S) (DoneR (world1 w1 db S) base db ro { plus1 S with fs := put S.fs s (settleF f) } (.tuple #[])) :=
      (settle_any (world1 w1 db S) fb f.b.length capf Af _ _ hfp.blk).mono fun e w' ⟨he, hw'⟩ => ⟨he, roPut ro s fb (.slice Af f.b.length capf), by
        rw [hw']
        exact (settled_done hdp.1 (show get (plus1 S).fs s = some f from hg') hat hfp).2⟩
    have HS := Lib.hid (step_settle w1 base db mb n D av ro S { plus1 S with fs := put S.fs s (settleF f) } false fb hd1 HST.out rfl (fun _ => hdo))
    unfold DoneR at HS
    have HFQ := Lib.hid (fun (w7 : World) (ro7 : Nat → Role) (hl : Left w1 w7 base db ro (stepEnd S { plus1 S with fs := put S.fs s (settleF f) } false) ro7) => HP.out (stepC S.armed) w7 (by unfold syncC; rw [if_neg (by simpa using hc), hg']) _ (by unfold syncS; rw [if_neg (by simpa using hc), hg']) ro7 ((HW1.out ▸ HL0.out nq).trans hl))
    clear hg hg' hc hd1 hfa1 hdp hfp hdo hat hfa HP HF
    go_wp2_with fail
    refine HS.out.mono ?_
    rintro e w7 ⟨rfl, ro7, hl7⟩
    have HQ := Lib.hid (HFQ.out w7 ro7 hl7)
    clear hl7 HFQ HS
    go_wp2
    exact HQ.out
end Go.Proofs.Ytfgbaigpmhnoaaa
