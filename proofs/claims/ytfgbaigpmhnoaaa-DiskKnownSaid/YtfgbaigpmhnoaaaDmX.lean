/- disk: what Cut does. -/
import Derived.Test.YtfgbaigpmhnoaaaDmM
import Derived.Test.YtfgbaigpmhnoaaaDskX
set_option linter.unusedVariables false
set_option linter.unusedSimpArgs false
namespace Go.Proofs.Ytfgbaigpmhnoaaa
open Go.RowKit Go.BigFrame Go.Maps
open Dsk (Fl St Ok get put drop used)

def cutF (f : Fl) (m : Nat) : Fl := ⟨f.b.take m, m, true⟩
theorem cut_keep {w : World} {base db mb n fb u L cap m : Nat} {D : DataW Unit} {av : Value} {ro : Nat → Role} {S : St} {s : ByteArray} {A : Option Addr} {f : Fl} (h : DiskIn w base db mb n D av ro S) (hg : get S.fs s = some f) (hat : D.atKey (kS s) .nil = .lit (.int .i64 ((fb : Nat) : Int))) (hfa : FileAt w base ro s fb (.slice A L cap) f) (hL : L = f.b.length)
    (hu : u + f.b.length = used S.fs + m) (hml : m ≤ f.b.length) :
    Left w (settled (cutW w db fb u A m cap) fb m) base db ro { S with fs := put S.fs s (cutF f m) } (roPut ro s fb (.slice A m cap)) := by
  have hf := h.ok.file s f hg
  have hl1 : (cutF f m).b.length = m := by unfold cutF; simp only [List.length_take]; omega
  obtain ⟨hc, hb1, hb2, hb3⟩ := cutW_facts (u := u) (m := m) h hfa hL (by omega)
  have hu2 := Dsk.used_put S.fs s (cutF f m) h.ok.sorted
  rw [hg, hl1] at hu2
  simp only [Dsk.lenO] at hu2
  have hfd : fb ≠ db := fun e => by have := hfa.rfb; rw [e, h.rdb] at this; cases this
  have hc2 := settled_ch (cutW w db fb u A m cap) fb m
  have hrb : ∀ b, (Value.slice A m cap).ownBlock = some b → ro b = .row s := fun b hb => hfa.rrow b (by rw [← hb]; cases A <;> rfl)
  refine (h.fileTurn (S' := { S with fs := put S.fs s (cutF f m) }) (f' := cutF f m) (v' := .slice A m cap) hg hat hfa (hc.trans hc2 (fun b _ e => .inl e)) ?_ ?_ ?_ (fun g hg => by cases A <;> exact hg) rfl (Nat.le_refl _) rfl ?_).2
  · rw [hc2.heap hb1 (Ne.symm hfd)]
    unfold diskCells
    dsimp only
    rw [show used (put S.fs s (cutF f m)) = u by omega]
    rfl
  · rw [settled_blk hb2]; rfl
  · rw [hl1]
    exact hc2.own hb3 fun b hb hM => by
      have h1 := hrb b hb
      rw [hM, hfa.rfb] at h1; cases h1
  · exact ok_settle h.ok hg (cutF f m) (by rw [hl1]; exact Nat.le_refl _) (fun x hx => hf.2.1 x (List.mem_of_mem_take hx)) (by rw [hl1]; exact hml)
set_option maxRecDepth 100000 in
set_option maxHeartbeats 4000000 in
theorem cut1_any (w : World) (base db mb n : Nat) (D : DataW Unit) (av v : Value) (ro : Nat → Role) (S : St) (s : ByteArray) (fb m : Nat) (f : Fl) (p0 p1 p2 : Nat) (h : DiskIn w base db mb n D av ro S) (hgs : get S.fs s = some f) (hat : D.atKey (kS s) .nil = .lit (.int .i64 ((fb : Nat) : Int))) (hfa : FileAt w base ro s fb v f)
    (c0 : w.cell? ⟨p0, 0, none⟩ = some (.pointer (some ⟨db, 0, none⟩))) (c1 : w.cell? ⟨p1, 0, none⟩ = some (.pointer (some ⟨fb, 0, none⟩))) (c2 : w.cell? ⟨p2, 0, none⟩ = some (.int .i64 (m : Int))) (hp : ro p0 = .none ∧ ro p1 = .none ∧ ro p2 = .none) (hm : m ≤ f.b.length) :
    Calls Try.prog 48 #[.pointer (some ⟨p0, 0, none⟩), .pointer (some ⟨p1, 0, none⟩), .pointer (some ⟨p2, 0, none⟩)] w (DoneR w base db ro { S with fs := put S.fs s (cutF f m) } (.tuple #[])) := by
  obtain ⟨A, cap, rfl⟩ := own_sl hfa.row
  have hcap : f.b.length ≤ cap := by
    rcases hfa.row.2 with ⟨e1, e2⟩ | ⟨g, cap', cur, e1, _, _, e3, _⟩
    · omega
    · cases e1; exact e3
  have hfl := h.ok.file s f hgs
  have hle := Dsk.len_le hgs
  have hsum := h.ok.sum
  have hbl := hfl.2.2.1
  have hfd : fb ≠ db := fun e => by have := hfa.rfb; rw [e, h.rdb] at this; cases this
  have hpd : ∀ p, ro p = .none → p ≠ db ∧ p ≠ fb := fun p e => ⟨fun e' => (by rw [e', h.rdb] at e; cases e), fun e' => (by rw [e', hfa.rfb] at e; cases e)⟩
  obtain ⟨u, hu⟩ : ∃ u : Nat, u + f.b.length = used S.fs + m := ⟨used S.fs + m - f.b.length, by omega⟩
  have hfa' : FileAt (w.drewN 1) base ro s fb (.slice A f.b.length cap) f := hfa.ch ((Ch.refl w (fun _ => False)).drewN 1) (fun _ _ h => h)
  have hld : Left w (w.drewN 1) base db ro S ro := ⟨⟨mb, n, D, av, h.drewN 1⟩, Sub.refl _ _, (Ch.refl _ _).drewN 1⟩
  have HK := Lib.hid (show DoneR w base db ro { S with fs := put S.fs s (cutF f m) } (.tuple #[]) (.returned (.tuple #[])) (settled (cutW (w.drewN 1) db fb u A m cap) fb m) from ⟨rfl, _, hld.trans (cut_keep (h.drewN 1) hgs hat hfa' rfl hu hm)⟩)
  have HC := Lib.hid (cutW_facts (u := u) (m := m) (h.drewN 1) hfa' rfl hm)
  generalize DoneR w base db ro { S with fs := put S.fs s (cutF f m) } (.tuple #[]) = post at *
  obtain ⟨_, _, d2, _, _, _⟩ := h.cells
  have f2 := h.free 2
  have g0 : w.cell? ⟨fb, 0, none⟩ = some (.slice A f.b.length cap) := by rw [blk_cell hfa.blk]; rfl
  have HFB := Lib.hid hfa.blk
  have HPD := Lib.hid (And.intro (hpd _ hp.1) (And.intro (hpd _ hp.2.1) (hpd _ hp.2.2)))
  generalize hL : f.b.length = L at *
  generalize hU : used S.fs = U at *
  obtain ⟨q, hq⟩ : ∃ q : Nat, q = L - m := ⟨_, rfl⟩
  have hwr1 : IntKind.i64.wrap ((L : Int) - (m : Int)) = (q : Int) := by rw [show (L : Int) - (m : Int) = (q : Int) by omega]; exact IntWalk.i64_in _ (by omega)
  have hwr2 : IntKind.i64.wrap ((U : Int) - (q : Int)) = (u : Int) := by rw [show (U : Int) - (q : Int) = (u : Int) by omega]; exact IntWalk.i64_in _ (by omega)
  have hif : 0 ≤ (m : Int) ∧ (m : Int) ≤ (cap : Int) := by omega
  clear h hgs hat hfa hfa' hld hfl hpd hp hq hu hle hsum hU
  go_enter Try.func48, Try.ntmps48
  go_upto_region 0 with (fail)
  go_still_tail 14, (by kernel_rfl)
  change wpList _ _ _ _ _ w.drew
  go_upto_region 1 with (fail)
  obtain ⟨w2, hw2⟩ : ∃ w2, w2 = (w.setCell ⟨db, 2, none⟩ (.int .i64 (u : Int))).drew := ⟨_, rfl⟩
  have HW2 := Lib.hid hw2
  have g0' : w2.cell? ⟨fb, 0, none⟩ = some (.slice A L cap) := by rw [hw2]; exact setCell_far g0 hfd
  have e1 : w2.cell? ⟨p1, 0, none⟩ = some (.pointer (some ⟨fb, 0, none⟩)) := by rw [hw2]; exact setCell_far c1 HPD.out.2.1.1
  have e2 : w2.cell? ⟨p2, 0, none⟩ = some (.int .i64 (m : Int)) := by rw [hw2]; exact setCell_far c2 HPD.out.2.2.1
  have fr : w2.drew.frozen? ⟨fb, 0, none⟩ = false := by have := blk_free HFB.out 0; rw [← this, hw2]; exact World.frozen?_setCell _ _ _ _
  rw [← hw2]
  clear hw2 g0 c0 c1 c2 d2 f2
  go_still_tail 9, (by kernel_rfl)
  change wpList _ _ _ _ _ w2.drew
  have k0 : w2.drew.cell? ⟨fb, 0, none⟩ = some (.slice A L cap) := g0'
  have k1 : w2.drew.cell? ⟨p1, 0, none⟩ = some (.pointer (some ⟨fb, 0, none⟩)) := e1
  obtain ⟨w3, hw3⟩ : ∃ w3, w3 = w2.drew := ⟨_, rfl⟩
  rw [← hw3] at k0 k1 fr ⊢
  have HW3 := Lib.hid hw3
  clear hw3 g0' e1 e2
  go_upto_region 2 with (fail)
  obtain ⟨w4, hw4⟩ : ∃ w4, w4 = w3.setCell ⟨fb, 0, none⟩ (.slice A m cap) := ⟨_, rfl⟩
  have e4 : w4 = cutW (w.drewN 1) db fb u A m cap := by rw [hw4, HW3.out, HW2.out]; rfl
  have m1 : w4.cell? ⟨p1, 0, none⟩ = some (.pointer (some ⟨fb, 0, none⟩)) := by rw [hw4]; exact setCell_far k1 HPD.out.2.1.2
  rw [← hw4]
  have HE4 := Lib.hid e4
  clear hw4 e4 k0 k1 fr
  have HST := Lib.hid (settle_any w4 fb m cap A _ _ (by rw [HE4.out]; exact HC.out.2.2.1))
  go_wp2_with fail
  refine HST.out.mono ?_
  rintro e w5 ⟨rfl, hw5⟩
  have HQ := Lib.hid (show post (.returned (.tuple #[])) w5 from by rw [hw5, HE4.out]; exact HK.out)
  clear hw5 HK HC HST
  go_wp2
  go_end0
  exact HQ.out
end Go.Proofs.Ytfgbaigpmhnoaaa

/- disk: Cut. -/
namespace Go.Proofs.Ytfgbaigpmhnoaaa
open Go.RowKit Go.BigFrame Go.Maps
open Dsk (Fl St Ok get put drop used)

def cutS (S : St) (s : ByteArray) (k : Int) : St := if refC S [s] ≠ 0 then S else match get S.fs s with
  | none => S
  | some f => if k < 0 ∨ (f.b.length : Int) < k then S else stepEnd S { plus1 S with fs := put S.fs s (cutF f k.toNat) } false
def cutC (S : St) (s : ByteArray) (k : Int) : Int := if refC S [s] ≠ 0 then refC S [s] else match get S.fs s with
  | none => 5
  | some f => if k < 0 ∨ (f.b.length : Int) < k then 2 else stepC S.armed
set_option maxRecDepth 100000 in
set_option maxHeartbeats 4000000 in
theorem cut_any (w : World) (base db : Nat) (ro : Nat → Role) (S : St) (s : ByteArray) (k : Int) (h : DiskAt w base db ro S) (hs : s.size ≤ maxLen) (hst : S.steps < 1000000000) :
    Calls Try.prog 25 #[.pointer (some ⟨db, 0, none⟩), .string s, .int .i64 k] w (DoneR w base db ro (cutS S s k) (.int .i64 (cutC S s k))) := by
  have HP := Lib.hid (fun (c : Int) (w' : World) (hc : c = cutC S s k) (S' : St) (hS : S' = cutS S s k) (ro1 : Nat → Role) (hl : Left w w' base db ro S' ro1) => show DoneR w base db ro (cutS S s k) (.int .i64 (cutC S s k)) (.returned (.int .i64 c)) w' from ⟨by rw [hc], ro1, hS ▸ hl⟩)
  generalize DoneR w base db ro (cutS S s k) (.int .i64 (cutC S s k)) = post at *
  have HD := Lib.hid h
  have HST := Lib.hid hst
  go_enter Try.func25, Try.ntmps25
  go_upto_region 1 with (fail)
  obtain ⟨W1, hW1, hg0, hg1, hb1, hz1⟩ := rows2 w (.cells #[.pointer (some ⟨db, 0, none⟩)] 25) (.cells #[.int .i64 k] 3)
  rw [← hW1]
  have c0 : W1.cell? ⟨w.heap.size, 0, none⟩ = some (.pointer (some ⟨db, 0, none⟩)) := by rw [blk_cell hg0]; rfl
  have c1 : W1.cell? ⟨w.heap.size + 1, 0, none⟩ = some (.int .i64 k) := by rw [blk_cell hg1]; rfl
  have hb2 : Below W1.heap.size W1 (W1.alloc (.cells #[.string s] 9)) := (Below.refl _ _).alloc (Nat.le_refl _) _
  have hbw2 : Below w.heap.size w (W1.alloc (.cells #[.string s] 9)) := hb1.alloc (by omega) _
  obtain ⟨mb, n, D, av, hd⟩ := HD.out.below hbw2
  have HF := Lib.hid (find_any (W1.alloc (.cells #[.string s] 9)) base db mb n D av ro S _ [s] hd (nrow_one W1 s hs) (by simp))
  unfold FindPost at HF
  have HD2 := Lib.hid hd
  have HL0 := Lib.hid (fun nq => Left.below HD.out (below_drewN hbw2 nq))
  have HB2 := Lib.hid hb2
  have HZ1 := Lib.hid hz1
  clear hW1 hg0 hg1 hb1 hb2 hz1 hbw2 hd h
  go_wp2_with fail
  refine HF.out.mono ?_
  rintro e w1 ⟨⟨nq, hw1⟩, hcase⟩
  have HW1 := Lib.hid hw1
  have hb3 : Below W1.heap.size W1 w1 := hw1 ▸ below_drewN HB2.out nq
  have c0 := (hb3.cell (p := ⟨w.heap.size, 0, none⟩) (by show w.heap.size < _; have := HZ1.out; omega)).trans c0
  have c1 := (hb3.cell (p := ⟨w.heap.size + 1, 0, none⟩) (by show w.heap.size + 1 < _; have := HZ1.out; omega)).trans c1
  have hlw : Left w w1 base db ro S ro := hw1 ▸ HL0.out nq
  have HLW := Lib.hid hlw
  have hd1 : DiskIn w1 base db mb n D av ro S := hw1 ▸ HD2.out.drewN nq
  have hz3 : w.heap.size + 2 < w1.heap.size := by have h1 := HZ1.out; have : (W1.alloc (.cells #[.string s] 9)).heap.size = W1.heap.size + 1 := by simp
                                                  rw [hw1, heap_drewN]; omega
  clear hw1
  rcases hcase with ⟨hc, rfl⟩ | ⟨hc, hg, rfl⟩ | ⟨hc, f, fb, v, hg, rfl, hat, hfa⟩
  · have HQ := Lib.hid (fun (o : Obj) => HP.out (refC S [s]) (w1.alloc o) (by unfold cutC; rw [if_pos hc]) S (by unfold cutS; rw [if_pos hc]) ro (HLW.out.trans (Left.below HLW.out.disk ((Below.refl _ _).alloc (Nat.le_refl _) o))))
    obtain ⟨cc, hcc⟩ : ∃ cc, cc = refC S [s] := ⟨_, rfl⟩
    rw [← hcc] at HQ hc ⊢
    have hc1 : (cc == 0) = false := by simpa using hc
    have hc2 : (cc != 0) = true := by simpa using hc
    clear hcc HP HF hd1 hlw hb3 c0 c1
    go_wp2
    exact HQ.out _
  · have hg' : get S.fs s = none := hg
    have HQ := Lib.hid (fun (o : Obj) => HP.out 5 (w1.alloc o) (by unfold cutC; rw [if_neg (by simpa using hc), hg']) S (by unfold cutS; rw [if_neg (by simpa using hc), hg']) ro (HLW.out.trans (Left.below HLW.out.disk ((Below.refl _ _).alloc (Nat.le_refl _) o))))
    clear hg hg' hc HP HF hd1 hlw hb3 c0 c1
    go_wp2
    exact HQ.out _
  · have hg' : get S.fs s = some f := hg
    have hfa1 : FileAt w1 base ro s fb v f := hfa.ch (HW1.out ▸ (Ch.refl _ (fun _ => False)).drewN nq) (fun _ _ h => h)
    obtain ⟨W3, hW3⟩ : ∃ W3, W3 = w1.alloc (.cells #[.pointer (some ⟨fb, 0, none⟩)] 62) := ⟨_, rfl⟩
    have hb4 : Below w1.heap.size w1 W3 := hW3 ▸ (Below.refl _ _).alloc (Nat.le_refl _) _
    have hcW : Ch w1 W3 (fun b => w1.heap.size ≤ b) := Ch.of_below hb4 _ fun k _ hk => hk
    have hd3 : DiskIn W3 base db mb n D av ro S := hd1.ch hcW fun b hb hM => by have := (hd1.old b hb).2; omega
    have hfa3 : FileAt W3 base ro s fb v f := hfa1.ch hcW fun b hb hM => by have := (hd1.old b (by rcases hb with hb | hb <;> rw [hb] <;> simp)).2; omega
    have k0 : W3.cell? ⟨w.heap.size, 0, none⟩ = some (.pointer (some ⟨db, 0, none⟩)) := hcW.cell c0 (by show ¬ (w1.heap.size ≤ w.heap.size); omega)
    have k1 : W3.cell? ⟨w.heap.size + 1, 0, none⟩ = some (.int .i64 k) := hcW.cell c1 (by show ¬ (w1.heap.size ≤ w.heap.size + 1); omega)
    have k3 : W3.cell? ⟨w1.heap.size, 0, none⟩ = some (.pointer (some ⟨fb, 0, none⟩)) := by rw [hW3, World.cell?_alloc_new]; rfl
    obtain ⟨A, cap, rfl⟩ := own_sl hfa3.row
    have kf : W3.cell? ⟨fb, 0, none⟩ = some (.slice A f.b.length cap) := by rw [blk_cell hfa3.blk]; rfl
    have hlw3 : Left w W3 base db ro S ro := HLW.out.trans (Left.below HLW.out.disk hb4)
    have HD3 := Lib.hid (And.intro hd3 (And.intro hfa3 hat))
    have HLW3 := Lib.hid (fun q => hlw3.trans (show Left W3 (W3.drewN q) base db ro S ro from ⟨⟨mb, n, D, av, hd3.drewN q⟩, Sub.refl _ _, (Ch.refl _ _).drewN q⟩))
    have HW3 := Lib.hid hW3
    have HK3 := Lib.hid (And.intro k0 (And.intro k1 k3))
    have hfl := (hd3.ok.file s f hg').2.2.1
    have hbad : (k < 0 ∨ (f.b.length : Int) < k) → cutC S s k = 2 ∧ cutS S s k = S := fun hb => by
      unfold cutC cutS
      rw [if_neg (by simpa using hc), if_neg (by simpa using hc), hg']
      dsimp only
      rw [if_pos hb, if_pos hb]
      exact ⟨rfl, rfl⟩
    by_cases hbb : k < 0 ∨ (f.b.length : Int) < k
    · have HQ := Lib.hid (fun q => HP.out 2 (W3.drewN q) (hbad hbb).1.symm S (hbad hbb).2.symm ro (HLW3.out q))
      clear hbad hd3 hfa3 hlw3 hfa1 hd1 hfa hat hg hg' hc HP HF hcW hb4 hb3 c0 c1 hlw
      go_upto_region 4 with (fail)
      rw [← hW3]
      clear hW3
      by_cases hneg : k < 0
      · clear hbb
        go_quiet (fail)
        go_wp2
        exact HQ.out _
      · have hlt : (f.b.length : Int) < k := by omega
        clear hbb
        go_quiet (fail)
        go_wp2
        exact HQ.out _
    · obtain ⟨m, rfl⟩ : ∃ m : Nat, k = (m : Int) := ⟨k.toNat, by omega⟩
      have hml : m ≤ f.b.length := by omega
      have hfree : ∀ p, w.heap.size ≤ p → ro p = .none := fun p hp => free_new HD.out hp
      have hd4 : ∀ nq, DiskIn (W3.drewN nq) base db mb n D av ro S := fun nq => hd3.drewN nq
      have hcQ : ∀ nq, Ch W3 (world1 (W3.drewN nq) db S) (fun b => b = db) := fun nq => ((Ch.refl W3 (fun b => b = db)).drewN nq).setCell (p := ⟨db, 3, none⟩) rfl _
      have hdp := fun nq => (hd4 nq).plus HST.out
      have hdn : ∀ p, w.heap.size ≤ p → p ≠ db := fun p hp e => by have := hfree p hp; rw [e, hd3.rdb] at this; cases this
      have hdo := fun nq => cut1_any (world1 (W3.drewN nq) db S) base db mb n D av _ ro (plus1 S) s fb m f w.heap.size w1.heap.size (w.heap.size + 1) (hdp nq).1 hg' hat (hfa3.ch (hcQ nq) fun b hb hM => by subst hM; rw [hd3.rdb] at hb; rcases hb with hb | hb <;> cases hb)
        ((hcQ nq).cell k0 (hdn w.heap.size (by omega))) ((hcQ nq).cell k3 (hdn w1.heap.size (by omega))) ((hcQ nq).cell k1 (hdn (w.heap.size + 1) (by omega))) ⟨hfree _ (by omega), hfree _ (by omega), hfree _ (by omega)⟩ hml
      have HSS := Lib.hid (fun nq => step_cut (W3.drewN nq) base db mb n D av ro S { plus1 S with fs := put S.fs s (cutF f m) } false w.heap.size w1.heap.size (w.heap.size + 1) (hd4 nq) HST.out rfl (fun _ => hdo nq))
      unfold DoneR at HSS
      have hgood : cutC S s (m : Int) = stepC S.armed ∧ cutS S s (m : Int) = stepEnd S { plus1 S with fs := put S.fs s (cutF f m) } false := by
        unfold cutC cutS
        rw [if_neg (by simpa using hc), if_neg (by simpa using hc), hg']
        dsimp only
        rw [if_neg hbb, if_neg hbb, Int.toNat_natCast]
        exact ⟨rfl, rfl⟩
      have HFQ := Lib.hid (fun (nq : Nat) (w7 : World) (ro7 : Nat → Role) (hl : Left (W3.drewN nq) w7 base db ro (stepEnd S { plus1 S with fs := put S.fs s (cutF f m) } false) ro7) => HP.out (stepC S.armed) w7 hgood.1.symm _ hgood.2.symm ro7 ((HLW3.out nq).trans hl))
      clear hbad hd3 hfa3 hlw3 hfa1 hd1 hfa hat hg hg' hc HP HF hcW hb4 hb3 c0 c1 hlw hgood hdo hdp hd4 hcQ hfree hdn
      go_upto_region 4 with (fail)
      rw [← hW3]
      clear hW3 hbb
      go_quiet (fail)
      go_wp2_with fail
      refine (HSS.out nq).mono ?_
      rintro e w7 ⟨rfl, ro7, hl7⟩
      have HQ := Lib.hid (HFQ.out nq w7 ro7 hl7)
      clear hl7 HFQ HSS
      go_wp2
      exact HQ.out
end Go.Proofs.Ytfgbaigpmhnoaaa
