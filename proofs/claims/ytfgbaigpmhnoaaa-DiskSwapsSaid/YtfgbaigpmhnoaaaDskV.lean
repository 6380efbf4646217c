/- disk: what Rename does. -/
import Derived.Test.YtfgbaigpmhnoaaaDskJ
set_option linter.unusedVariables false
set_option linter.unusedSimpArgs false
namespace Go.Proofs.Ytfgbaigpmhnoaaa
open Go.RowKit Go.BigFrame Go.Maps
open Dsk (Fl St Ok get put drop used)

/-- The files behind a Rename of a file that is there. -/
def renFs (fs : Dsk.FS) (s t : ByteArray) (f : Fl) : Dsk.FS := if s = t then put fs s (settleF f) else put (drop (drop (put fs s (settleF f)) t) s) t (settleF f)
theorem len_drop_in : ∀ {fs : Dsk.FS} {s : ByteArray} {f : Fl}, get fs s = some f → (drop fs s).length + 1 ≤ fs.length
  | [], s, f, h => by simp [Dsk.get] at h
  | (t, g) :: r, s, f, h => by
    unfold Dsk.get at h
    unfold Dsk.drop
    split at h
    · rename_i e; rw [if_pos e]; simp
    · rename_i e; rw [if_neg e]; have := len_drop_in h; simp; omega
theorem ren_done {w w' : World} {base db mb n fb : Nat} {D : DataW Unit} {av v : Value} {ro : Nat → Role} {S : St} {s t : ByteArray} {f : Fl} (h : DiskIn w base db mb n D av ro S) (hne : s ≠ t) (hgs : get S.fs s = some f) (hgt : get S.fs t = none) (hat : D.atKey (kS s) .nil = .lit (.int .i64 ((fb : Nat) : Int))) (hfa : FileAt w base ro s fb v f)
    (hn : n + 1 ≤ S.steps) (h0 : 0 < t.size) (h1 : t.size ≤ 128) (hown : w'.ownsMap Try.prog 9 ptrElem mb (n + 1) ((D.del (kS s)).put (kS t) (.lit (.int .i64 ((fb : Nat) : Int))))) (hc : Ch w w' (fun b => b = mb)) :
    Left w w' base db ro { S with fs := put (drop S.fs s) t f } (roPut (unname ro s) t fb v) := by
  have hmd : mb ≠ db := fun e => by have := h.rmb; rw [e, h.rdb] at this; cases this
  have hmf : mb ≠ fb := fun e => by have := h.rmb; rw [e, hfa.rfb] at this; cases this
  have hkst : kS s ≠ kS t := fun e => hne (kS_inj e)
  have hfl := h.ok.file s f hgs
  have hu1 := Dsk.used_drop S.fs s
  rw [hgs] at hu1
  simp only [Dsk.lenO] at hu1
  have hgd : get (drop S.fs s) t = none := by rw [Dsk.get_drop_other _ _ _ (Ne.symm hne)]; exact hgt
  have hu2 := Dsk.used_put (drop S.fs s) t f (Dsk.Sorted.drop _ _ h.ok.sorted)
  rw [hgd] at hu2
  simp only [Dsk.lenO] at hu2
  have hu : used (put (drop S.fs s) t f) = used S.fs := by omega
  have hfit := h.ok.fit
  have hsum := h.ok.sum
  have hlow : n + 1 ≤ S.steps := hn
  have hln : (put (drop S.fs s) t f).length ≤ S.steps := by
    have e1 := Dsk.len_put (drop S.fs s) t f
    have e2 : (drop S.fs s).length + 1 ≤ S.fs.length := len_drop_in hgs
    have := h.ok.few
    omega
  have hok : Ok { S with fs := put (drop S.fs s) t f } := ok_put (S := { S with fs := drop S.fs s }) (ok_drop h.ok s) t f hfl.1 hfl.2.1 hfl.2.2.1 h0 h1 (used S.fs) hu hfit hsum hln
  have hvr : ∀ g, v.ownBlock = some g → ro g = .row s := hfa.rrow
  have hne1 : ∀ b q, ro b = q → q ≠ .none → q ≠ .file s → q ≠ .row s → q ≠ .file t → q ≠ .row t → roPut (unname ro s) t fb v b = q := fun b q e a1 a2 a3 a4 a5 => by
    unfold roPut
    rw [if_neg (fun e' => a2 (by rw [← e, e', hfa.rfb])), if_neg (fun e' => a3 (by rw [← e, hvr b e']))]
    rw [unname_id (unname_id e a2 a3) a4 a5]
  have hle : ∀ b, roPut (unname ro s) t fb v b ≠ .none → ro b ≠ .none := fun b hb => by
    unfold roPut at hb
    by_cases e1 : b = fb
    · rw [e1, hfa.rfb]; simp
    · rw [if_neg e1] at hb
      by_cases e2 : v.ownBlock = some b
      · rw [hvr b e2]; simp
      · rw [if_neg e2] at hb
        have e3 := (unname_some hb).1
        rw [e3] at hb
        have e4 := (unname_some hb).1
        rw [e4] at hb
        exact hb
  refine ⟨⟨mb, n + 1, (D.del (kS s)).put (kS t) (.lit (.int .i64 ((fb : Nat) : Int))), av, ?_⟩, fun b _ hb => hle b hb, hc.weak fun b _ e => by rw [e]; unfold Own; rw [h.rmb]; simp⟩
  refine h.turns (fun u => u = s ∨ u = t) hc (fun b u _ hb hM => ?_) (fun b hb => ?_) (fun b hb => ?_) ?_ hown hn (fun u hu' => ?_) (fun u hu' => ?_) (fun u hu' => ?_) (fun u hu' f' hf' => ?_) ?_ hok
  · rw [hM, h.rmb] at hb; rcases hb with hb | hb <;> cases hb
  · rcases hb with hb | hb | ⟨u, hX, hb | hb⟩
    · rw [hne1 b _ hb (by simp) (by simp) (by simp) (by simp) (by simp), hb]
    · rw [hne1 b _ hb (by simp) (by simp) (by simp) (by simp) (by simp), hb]
    · rw [hne1 b _ hb (by simp) (fun e => by cases e; exact hX (.inl rfl)) (by simp) (fun e => by cases e; exact hX (.inr rfl)) (by simp), hb]
    · rw [hne1 b _ hb (by simp) (by simp) (fun e => by cases e; exact hX (.inl rfl)) (by simp) (fun e => by cases e; exact hX (.inr rfl)), hb]
  · have := h.old b (hle b hb)
    exact ⟨this.1, Nat.lt_of_lt_of_le this.2 hc.size⟩
  · rw [hc.heap h.blk (Ne.symm hmd)]
    unfold diskCells
    dsimp only
    rw [hu]
  · have e1 : kS u ≠ kS s := fun e => hu' (.inl (kS_inj e))
    have e2 : kS u ≠ kS t := fun e => hu' (.inr (kS_inj e))
    exact ⟨(has_put_other e2 _).trans (has_del_other e1), (atKey_put_other e2 _ _).trans (atKey_del_other e1 _)⟩
  · show get (put (drop S.fs s) t f) u = get S.fs u
    rw [Dsk.get_put_other _ _ _ _ (fun e => hu' (.inr e)), Dsk.get_drop_other _ _ _ (fun e => hu' (.inl e))]
  · rcases hu' with rfl | rfl
    · show _ = (get (put (drop S.fs u) t f) u).isSome
      rw [Dsk.get_put_other _ _ _ _ hne, Dsk.get_drop_same _ _ h.ok.sorted]
      exact (has_put_other hkst _).trans has_del_same
    · show _ = (get (put (drop S.fs s) u f) u).isSome
      rw [Dsk.get_put_same]
      exact has_put_same ((h.own.isMap).del _) (kS_key u) _
  · rcases hu' with rfl | rfl
    · have hf2 : get (put (drop S.fs u) t f) u = some f' := hf'
      rw [Dsk.get_put_other _ _ _ _ hne, Dsk.get_drop_same _ _ h.ok.sorted] at hf2
      cases hf2
    · have hf2 : get (put (drop S.fs s) u f) u = some f' := hf'
      rw [Dsk.get_put_same] at hf2
      cases hf2
      refine ⟨fb, v, atKey_put_same ((h.own.isMap).del _) (kS_key u) _ _, by unfold roPut; rw [if_pos rfl], hc.heap hfa.blk (Ne.symm hmf), hc.own hfa.row (fun b hb hM => by have := hvr b hb; rw [hM, h.rmb] at this; cases this), fun g hg => ?_⟩
      unfold roPut
      have hgf : g ≠ fb := fun e => by have := hvr g hg; rw [e, hfa.rfb] at this; cases this
      rw [if_neg hgf, if_pos hg]
  · rcases h.arm with h1 | ⟨k, ab, h1, h2, h3, h4⟩
    · exact .inl h1
    · exact .inr ⟨k, ab, h1, h2, hne1 ab _ h3 (by simp) (by simp) (by simp) (by simp) (by simp), hc.heap h4 fun e => by rw [e, h.rmb] at h3; cases h3⟩
end Go.Proofs.Ytfgbaigpmhnoaaa
