/- disk: what Rename does. -/
import Derived.Test.YtfgbaigpmhnoaaaDskJ
set_option linter.unusedVariables false
set_option linter.unusedSimpArgs false
namespace Go.Proofs.Ytfgbaigpmhnoaaa
open Go.RowKit Go.BigFrame Go.Maps
open Dsk (Fl St Ok get put drop used)

/-- The files behind a Rename of a file that is there. -/
def renFs (fs : Dsk.FS) (s t : ByteArray) (f : Fl) : Dsk.FS := if s = t then put fs s (settleF f) else put (drop (drop (put fs s (settleF f)) t) s) t (settleF f)
theorem len_drop_in : ∀ {fs : Dsk.FS} {s : ByteArray} {f : Fl}, get fs s = some f → (drop fs s).length + 1 ≤ fs.length
  | [], s, f, h => by simp [Dsk.get] at h
  | (t, g) :: r, s, f, h => by
    unfold Dsk.get at h
    unfold Dsk.drop
    split at h
    · rename_i e; rw [if_pos e]; simp
    · rename_i e; rw [if_neg e]; have := len_drop_in h; simp; omega
theorem ren_done {w w' : World} {base db mb n fb : Nat} {D : DataW Unit} {av v : Value} {ro : Nat → Role} {S : St} {s t : ByteArray} {f : Fl} (h : DiskIn w base db mb n D av ro S) (hne : s ≠ t) (hgs : get S.fs s = some f) (hgt : get S.fs t = none) (hat : D.atKey (kS s) .nil = .lit (.int .i64 ((fb : Nat) : Int))) (hfa : FileAt w base ro s fb v f)
    (hn : n + 1 ≤ S.steps) (h0 : 0 < t.size) (h1 : t.size ≤ 128) (hown : w'.ownsMap Try.prog 9 ptrElem mb (n + 1) ((D.del (kS s)).put (kS t) (.lit (.int .i64 ((fb : Nat) : Int))))) (hc : Ch w w' (fun b => b = mb)) :
    Left w w' base db ro { S with fs := put (drop S.fs s) t f } (roPut (unname ro s) t fb v) := by
  have hmd : mb ≠ db := fun e => by have := h.rmb; rw [e, h.rdb] at this; cases this
  have hmf : mb ≠ fb := fun e => by have := h.rmb; rw [e, hfa.rfb] at this; cases this
  have hkst : kS s ≠ kS t := fun e => hne (kS_inj e)
  have hfl := h.ok.file s f hgs
  have hu1 := Dsk.used_drop S.fs s
  rw [hgs] at hu1
  simp only [Dsk.lenO] at hu1
  have hgd : get (drop S.fs s) t = none := by rw [Dsk.get_drop_other _ _ _ (Ne.symm hne)]; exact hgt
  have hu2 := Dsk.used_put (drop S.fs s) t f (Dsk.Sorted.drop _ _ h.ok.sorted)
  rw [hgd] at hu2
  simp only [Dsk.lenO] at hu2
  have hu : used (put (drop S.fs s) t f) = used S.fs := by omega
  have hfit := h.ok.fit
  have hsum := h.ok.sum
  have hlow : n + 1 ≤ S.steps := hn
  have hln : (put (drop S.fs s) t f).length ≤ S.steps := by
    have e1 := Dsk.len_put (drop S.fs s) t f
    have e2 : (drop S.fs s).length + 1 ≤ S.fs.length := len_drop_in hgs
    have := h.ok.few
    omega
  have hok : Ok { S with fs := put (drop S.fs s) t f } := ok_put (S := { S with fs := drop S.fs s }) (ok_drop h.ok s) t f hfl.1 hfl.2.1 hfl.2.2.1 h0 h1 (used S.fs) hu hfit hsum hln
  have hvr : ∀ g, v.ownBlock = some g → ro g = .row s := hfa.rrow
  have hne1 : ∀ b q, ro b = q → q ≠ .none → q ≠ .file s → q ≠ .row s → q ≠ .file t → q ≠ .row t → roPut (unname ro s) t fb v b = q := fun b q e a1 a2 a3 a4 a5 => by
    unfold roPut
    rw [if_neg (fun e' => a2 (by rw [← e, e', hfa.rfb])), if_neg (fun e' => a3 (by rw [← e, hvr b e']))]
    rw [unname_id (unname_id e a2 a3) a4 a5]
  have hle : ∀ b, roPut (unname ro s) t fb v b ≠ .none → ro b ≠ .none := fun b hb => by
    unfold roPut at hb
    by_cases e1 : b = fb
    · rw [e1, hfa.rfb]; simp
    · rw [if_neg e1] at hb
      by_cases e2 : v.ownBlock = some b
      · rw [hvr b e2]; simp
      · rw [if_neg e2] at hb
        have e3 := (unname_some hb).1
        rw [e3] at hb
        have e4 := (unname_some hb).1
        rw [e4] at hb
        exact hb
  refine ⟨⟨mb, n + 1, (D.del (kS s)).put (kS t) (.lit (.int .i64 ((fb : Nat) : Int))), av, ?_⟩, fun b _ hb => hle b hb, hc.weak fun b _ e => by rw [e]; unfold Own; rw [h.rmb]; simp⟩
  refine h.turns (fun u => u = s ∨ u = t) hc (fun b u _ hb hM => ?_) (fun b hb => ?_) (fun b hb => ?_) ?_ hown hn (fun u hu' => ?_) (fun u hu' => ?_) (fun u hu' => ?_) (fun u hu' f' hf' => ?_) ?_ hok
  · rw [hM, h.rmb] at hb; rcases hb with hb | hb <;> cases hb
  · rcases hb with hb | hb | ⟨u, hX, hb | hb⟩
    · rw [hne1 b _ hb (by simp) (by simp) (by simp) (by simp) (by simp), hb]
    · rw [hne1 b _ hb (by simp) (by simp) (by simp) (by simp) (by simp), hb]
    · rw [hne1 b _ hb (by simp) (fun e => by cases e; exact hX (.inl rfl)) (by simp) (fun e => by cases e; exact hX (.inr rfl)) (by simp), hb]
    · rw [hne1 b _ hb (by simp) (by simp) (fun e => by cases e; exact hX (.inl rfl)) (by simp) (fun e => by cases e; exact hX (.inr rfl)), hb]
  · have := h.old b (hle b hb)
    exact ⟨this.1, Nat.lt_of_lt_of_le this.2 hc.size⟩
  · rw [hc.heap h.blk (Ne.symm hmd)]
    unfold diskCells
    dsimp only
    rw [hu]
  · have e1 : kS u ≠ kS s := fun e => hu' (.inl (kS_inj e))
    have e2 : kS u ≠ kS t := fun e => hu' (.inr (kS_inj e))
    exact ⟨(has_put_other e2 _).trans (has_del_other e1), (atKey_put_other e2 _ _).trans (atKey_del_other e1 _)⟩
  · show get (put (drop S.fs s) t f) u = get S.fs u
    rw [Dsk.get_put_other _ _ _ _ (fun e => hu' (.inr e)), Dsk.get_drop_other _ _ _ (fun e => hu' (.inl e))]
  · rcases hu' with rfl | rfl
    · show _ = (get (put (drop S.fs u) t f) u).isSome
      rw [Dsk.get_put_other _ _ _ _ hne, Dsk.get_drop_same _ _ h.ok.sorted]
      exact (has_put_other hkst _).trans has_del_same
    · show _ = (get (put (drop S.fs s) u f) u).isSome
      rw [Dsk.get_put_same]
      exact has_put_same ((h.own.isMap).del _) (kS_key u) _
  · rcases hu' with rfl | rfl
    · have hf2 : get (put (drop S.fs u) t f) u = some f' := hf'
      rw [Dsk.get_put_other _ _ _ _ hne, Dsk.get_drop_same _ _ h.ok.sorted] at hf2
      cases hf2
    · have hf2 : get (put (drop S.fs s) u f) u = some f' := hf'
      rw [Dsk.get_put_same] at hf2
      cases hf2
      refine ⟨fb, v, atKey_put_same ((h.own.isMap).del _) (kS_key u) _ _, by unfold roPut; rw [if_pos rfl], hc.heap hfa.blk (Ne.symm hmf), hc.own hfa.row (fun b hb hM => by have := hvr b hb; rw [hM, h.rmb] at this; cases this), fun g hg => ?_⟩
      unfold roPut
      have hgf : g ≠ fb := fun e => by have := hvr g hg; rw [e, hfa.rfb] at this; cases this
      rw [if_neg hgf, if_pos hg]
  · rcases h.arm with h1 | ⟨k, ab, h1, h2, h3, h4⟩
    · exact .inl h1
    · exact .inr ⟨k, ab, h1, h2, hne1 ab _ h3 (by simp) (by simp) (by simp) (by simp) (by simp), hc.heap h4 fun e => by rw [e, h.rmb] at h3; cases h3⟩
end Go.Proofs.Ytfgbaigpmhnoaaa

/- disk: what Rename does, walked; Rename. -/
namespace Go.Proofs.Ytfgbaigpmhnoaaa
open Go.RowKit Go.BigFrame Go.Maps
open Dsk (Fl St Ok get put drop used)

set_option maxRecDepth 100000 in
set_option maxHeartbeats 4000000 in
theorem rename1_any (w : World) (base db mb n : Nat) (D : DataW Unit) (av v : Value) (ro : Nat → Role) (S : St) (s t : ByteArray) (fb : Nat) (f : Fl) (p0 p1 p2 p3 : Nat) (h : DiskIn w base db mb n D av ro S) (hgs : get S.fs s = some f) (hat : D.atKey (kS s) .nil = .lit (.int .i64 ((fb : Nat) : Int))) (hfa : FileAt w base ro s fb v f)
    (c0 : w.cell? ⟨p0, 0, none⟩ = some (.pointer (some ⟨fb, 0, none⟩))) (c1 : w.cell? ⟨p1, 0, none⟩ = some (.string s)) (c2 : w.cell? ⟨p2, 0, none⟩ = some (.string t)) (c3 : w.cell? ⟨p3, 0, none⟩ = some (.pointer (some ⟨db, 0, none⟩)))
    (hp : ro p0 = .none ∧ ro p1 = .none ∧ ro p2 = .none ∧ ro p3 = .none) (h0 : 0 < t.size) (h1 : t.size ≤ 128) (hs1 : s.size ≤ 128) (hn : n + 1 ≤ S.steps) :
    Calls Try.prog 45 #[.pointer (some ⟨p0, 0, none⟩), .pointer (some ⟨p1, 0, none⟩), .pointer (some ⟨p2, 0, none⟩), .pointer (some ⟨p3, 0, none⟩)] w (DoneR w base db ro { S with fs := renFs S.fs s t f } (.tuple #[])) := by
  have HP := Lib.hid (fun (w' : World) (ro1 : Nat → Role) (hl : Left w w' base db ro { S with fs := renFs S.fs s t f } ro1) => show DoneR w base db ro { S with fs := renFs S.fs s t f } (.tuple #[]) (.returned (.tuple #[])) w' from ⟨rfl, ro1, hl⟩)
  generalize DoneR w base db ro { S with fs := renFs S.fs s t f } (.tuple #[]) = post at *
  obtain ⟨A, cap, rfl⟩ := own_sl hfa.row
  have HST := Lib.hid (settle_any w fb f.b.length cap A _ _ hfa.blk)
  obtain ⟨hd1, hl1⟩ := settled_done h hgs hat hfa
  have hpf : ∀ p, ro p = .none → p ≠ fb ∧ p ≠ db ∧ p ≠ mb := fun p e => ⟨fun e' => (by rw [e', hfa.rfb] at e; cases e), fun e' => (by rw [e', h.rdb] at e; cases e), fun e' => (by rw [e', h.rmb] at e; cases e)⟩
  have hc1 := settled_ch w fb f.b.length
  obtain ⟨w1, hw1⟩ : ∃ w1, w1 = settled w fb f.b.length := ⟨_, rfl⟩
  rw [← hw1] at hd1 hl1 hc1
  have d0 := hc1.cell c0 (hpf _ hp.1).1
  have d1 := hc1.cell c1 (hpf _ hp.2.1).1
  have d2 := hc1.cell c2 (hpf _ hp.2.2.1).1
  have d3 := hc1.cell c3 (hpf _ hp.2.2.2).1
  have HW1 := Lib.hid hw1
  have HL1 := Lib.hid hl1
  have HD1 := Lib.hid hd1
  have HPF := Lib.hid (And.intro (hpf _ hp.1) (And.intro (hpf _ hp.2.1) (And.intro (hpf _ hp.2.2.1) (hpf _ hp.2.2.2))))
  have HAT := Lib.hid hat
  have HN := Lib.hid hn
  have HT := Lib.hid (And.intro h0 h1)
  have hlow := h.ok.low
  have hbnd := h.bnd
  clear h hgs hat hfa hd1 hl1 hpf hc1 hp hw1 h0 hn
  go_enter Try.func45, Try.ntmps45
  go_wp2_with fail
  refine HST.out.mono ?_
  rintro e w1' ⟨rfl, hw1'⟩
  obtain rfl : w1' = w1 := hw1'.trans HW1.out.symm
  clear hw1' HST c0 c1 c2 c3
  by_cases hst : s = t
  · subst hst
    have hst2 : (s.toList == s.toList) = true := by rw [str_ne_iff]; simp
    have HQ := Lib.hid (HP.out w1' _ (by unfold renFs; rw [if_pos rfl]; exact HL1.out))
    clear HP HL1 HD1 HW1
    go_wp2
    go_end0
    exact HQ.out
  · have hst2 : (s.toList == t.toList) = false := by rw [str_ne_iff]; simpa using hst
    have HDR := Lib.hid (drop_any w1' base db mb n D av _ _ t HD1.out (by unfold maxLen; omega))
    have HNE := Lib.hid hst
    go_wp2_with fail
    refine HDR.out.mono ?_
    rintro e w2 ⟨rfl, hd2, hch2⟩
    have HD2 := Lib.hid hd2
    have e0 := hch2.cell d0 (fun hM => hM.elim HPF.out.1.2.1 HPF.out.1.2.2)
    have e1 := hch2.cell d1 (fun hM => hM.elim HPF.out.2.1.2.1 HPF.out.2.1.2.2)
    have e2 := hch2.cell d2 (fun hM => hM.elim HPF.out.2.2.1.2.1 HPF.out.2.2.1.2.2)
    have e3 := hch2.cell d3 (fun hM => hM.elim HPF.out.2.2.2.2.1 HPF.out.2.2.2.2.2)
    have HL2 := Lib.hid (show Left w1' w2 base db (roPut ro s fb (.slice A f.b.length cap)) _ _ from ⟨⟨mb, n, _, av, hd2⟩, fun b _ hb => (by unfold Own at hb ⊢; rw [← (unname_some hb).1]; exact hb), hch2.weak fun b _ hM => by unfold Own; rcases hM with e | e; rw [e, HD1.out.rdb]; simp; rw [e, HD1.out.rmb]; simp⟩)
    obtain ⟨_, m1, _, _, _, _⟩ := hd2.cells
    clear hd2 hch2 d0 d1 d2 d3 HDR
    go_upto_region 3 with (fail)
    go_still_tail 5, (by kernel_rfl)
    change wpList _ _ _ _ _ w2.drew
    go_wp2_with (at_delete; refine wpList_delete_own _ rfl _ _ 55 9 rfl 62 keyStr Try.underlying55 ptrElem mb n _ rfl (World.ownsMap.drew HD2.out.own) _ (kS s) rfl (Go.WideMaps.keyOf_string_mk Try.underlying9 (by unfold maxLen; omega)) ?_)
    intro w3 hown3 hturn3
    have hch3 : Ch w2 w3 (fun b => b = mb) := ((Ch.refl w2 _).drew).grown hturn3.grown fun k _ e => (Option.some.inj e).symm
    have g0 := hch3.cell e0 HPF.out.1.2.2
    have g2 := hch3.cell e2 HPF.out.2.2.1.2.2
    have g3 := hch3.cell e3 HPF.out.2.2.2.2.2
    have m3 := hch3.cell m1 (show db ≠ mb from fun e => by have := HD2.out.rmb; rw [← e, HD2.out.rdb] at this; cases this)
    have HH := Lib.hid (hold_any w3 db mb n _ t fb (by have := HT.out.2; unfold maxLen; omega) (by have := HD1.out.ok.low; have := HD1.out.bnd; omega) m3 hown3)
    have HC3 := Lib.hid hch3
    clear hch3 hturn3 hown3 e0 e1 e2 e3 m1
    go_wp2_with fail
    refine HH.out.mono ?_
    rintro e w4 ⟨rfl, hown4, hg4⟩
    have hgs2 : get (drop (put S.fs s (settleF f)) t) s = some (settleF f) := by rw [Dsk.get_drop_other _ _ _ HNE.out, Dsk.get_put_same]
    have hgt2 : get (drop (put S.fs s (settleF f)) t) t = none := Dsk.get_drop_same _ _ HD1.out.ok.sorted
    obtain ⟨fb2, v2, ha2, hfa2⟩ := HD2.out.file s (settleF f) hgs2
    have hfb2 : fb2 = fb := by
      rw [atKey_del_other (fun e => HNE.out (kS_inj e)), HAT.out] at ha2
      have : ((fb : Nat) : Int) = ((fb2 : Nat) : Int) := by injection ha2 with ha2; injection ha2
      omega
    subst hfb2
    have hl4 := ren_done HD2.out HNE.out hgs2 hgt2 ha2 hfa2 HN.out HT.out.1 HT.out.2 hown4 (HC3.out.grown hg4 fun k _ e => (Option.some.inj e).symm)
    have HQ := Lib.hid (HP.out w4 _ ((HL1.out.trans HL2.out).trans (by
      have e : renFs S.fs s t f = put (drop (drop (put S.fs s (settleF f)) t) s) t (settleF f) := by unfold renFs; rw [if_neg HNE.out]
      rw [e]; exact hl4)))
    clear hl4 hfa2 ha2 hown4 hg4 HH HP HL1 HL2 HD1 HD2 HC3 g0 g2 g3 m3
    go_wp2
    go_end0
    exact HQ.out
end Go.Proofs.Ytfgbaigpmhnoaaa
