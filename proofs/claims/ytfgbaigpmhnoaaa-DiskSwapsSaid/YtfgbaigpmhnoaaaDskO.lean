/- disk: On. -/
import Derived.Test.YtfgbaigpmhnoaaaDskN
set_option linter.unusedVariables false
set_option linter.unusedSimpArgs false
namespace Go.Proofs.Ytfgbaigpmhnoaaa
open Go.RowKit Go.BigFrame Go.Maps
open Dsk (Fl St Ok get put drop used)

/-- All files when the power comes on. -/
def recAll (ks : List Int) : Nat → Dsk.FS → Dsk.FS
  | _, [] => []
  | i, (s, f) :: r => if (recF f (ks.getD i 0)).sure = 0 ∧ f.ever = false then recAll ks (i + 1) r else (s, recF f (ks.getD i 0)) :: recAll ks (i + 1) r
theorem recAll_snoc (ks : List Int) : ∀ (i : Nat) (P : Dsk.FS) (s : ByteArray) (f : Fl), recAll ks i (P ++ [(s, f)]) = recAll ks i P ++ (if (recF f (ks.getD (i + P.length) 0)).sure = 0 ∧ f.ever = false then [] else [(s, recF f (ks.getD (i + P.length) 0))])
  | i, [], s, f => by simp [recAll]
  | i, (t, g) :: P, s, f => by
    have ih := recAll_snoc ks (i + 1) P s f
    simp only [List.cons_append, recAll, ih, List.length_cons, show i + (P.length + 1) = i + 1 + P.length by omega]
    split <;> simp
theorem recAll_mem (ks : List Int) : ∀ (i : Nat) (P : Dsk.FS) (p : ByteArray × Fl), p ∈ recAll ks i P → ∃ g, (p.1, g) ∈ P
  | i, [], p, h => by simp [recAll] at h
  | i, (t, g) :: P, p, h => by
    unfold recAll at h
    split at h
    · obtain ⟨g', h'⟩ := recAll_mem ks (i + 1) P p h
      exact ⟨g', by simp [h']⟩
    · simp only [List.mem_cons] at h
      rcases h with rfl | h
      · exact ⟨g, by simp⟩
      · obtain ⟨g', h'⟩ := recAll_mem ks (i + 1) P p h
        exact ⟨g', by simp [h']⟩
theorem get_mid : ∀ (P R : Dsk.FS) (s : ByteArray) (f : Fl), (∀ p ∈ P, Dsk.ltB p.1 s = true) → get (P ++ (s, f) :: R) s = some f
  | [], R, s, f, _ => by simp [Dsk.get]
  | (t, g) :: P, R, s, f, h => by
    have h1 := h (t, g) (by simp)
    show (if t = s then some g else get (P ++ (s, f) :: R) s) = some f
    rw [if_neg (Dsk.ltB_ne h1)]
    exact get_mid P R s f fun p hp => h p (by simp [hp])
theorem put_mid : ∀ (P R : Dsk.FS) (s : ByteArray) (f f' : Fl), (∀ p ∈ P, Dsk.ltB p.1 s = true) → put (P ++ (s, f) :: R) s f' = P ++ (s, f') :: R
  | [], R, s, f, f', _ => by simp [Dsk.put]
  | (t, g) :: P, R, s, f, f', h => by
    have h1 := h (t, g) (by simp)
    show (if t = s then (s, f') :: (P ++ (s, f) :: R) else if Dsk.ltB s t then (s, f') :: (t, g) :: (P ++ (s, f) :: R) else (t, g) :: put (P ++ (s, f) :: R) s f') = _
    rw [if_neg (Dsk.ltB_ne h1), if_neg (by rw [Dsk.ltB_asymm h1]; simp), put_mid P R s f f' fun p hp => h p (by simp [hp])]
    rfl
theorem drop_mid : ∀ (P R : Dsk.FS) (s : ByteArray) (f : Fl), (∀ p ∈ P, Dsk.ltB p.1 s = true) → drop (P ++ (s, f) :: R) s = P ++ R
  | [], R, s, f, _ => by simp [Dsk.drop]
  | (t, g) :: P, R, s, f, h => by
    have h1 := h (t, g) (by simp)
    show (if t = s then P ++ (s, f) :: R else (t, g) :: drop (P ++ (s, f) :: R) s) = _
    rw [if_neg (Dsk.ltB_ne h1), drop_mid P R s f fun p hp => h p (by simp [hp])]
    rfl
/-- Where the loop is. -/
def recTo (ks : List Int) (fs : Dsk.FS) (i : Nat) : Dsk.FS := recAll ks 0 (fs.take i) ++ fs.drop i
theorem recTo_zero (ks : List Int) (fs : Dsk.FS) : recTo ks fs 0 = fs := by simp [recTo, recAll]
theorem recTo_end (ks : List Int) (fs : Dsk.FS) : recTo ks fs fs.length = recAll ks 0 fs := by simp [recTo]
theorem recTo_step (ks : List Int) {fs : Dsk.FS} (hs : Dsk.Sorted fs) (i : Nat) (hi : i < fs.length) : get (recTo ks fs i) fs[i].1 = some fs[i].2 ∧ recFs (recTo ks fs i) fs[i].1 fs[i].2 (ks.getD i 0) = recTo ks fs (i + 1) := by
  have hd : fs.drop i = fs[i] :: fs.drop (i + 1) := by rw [List.drop_eq_getElem_cons hi]
  have hlow : ∀ p ∈ recAll ks 0 (fs.take i), Dsk.ltB p.1 fs[i].1 = true := fun p hp => by
    obtain ⟨g, hg⟩ := recAll_mem ks 0 _ p hp
    obtain ⟨j, hj, e⟩ := List.mem_iff_getElem.1 hg
    rw [List.length_take] at hj
    rw [List.getElem_take] at e
    have := List.pairwise_iff_getElem.1 hs j i (by omega) hi (by omega)
    rw [e] at this
    exact this
  have e : recTo ks fs i = recAll ks 0 (fs.take i) ++ (fs[i].1, fs[i].2) :: fs.drop (i + 1) := by unfold recTo; rw [hd]
  have e2 : recTo ks fs (i + 1) = recAll ks 0 (fs.take i) ++ (if (recF fs[i].2 (ks.getD i 0)).sure = 0 ∧ fs[i].2.ever = false then [] else [(fs[i].1, recF fs[i].2 (ks.getD i 0))]) ++ fs.drop (i + 1) := by
    unfold recTo
    have ht : fs.take (i + 1) = fs.take i ++ [(fs[i].1, fs[i].2)] := by rw [List.take_succ_eq_append_getElem hi]
    rw [ht, recAll_snoc, List.length_take, Nat.min_eq_left (by omega), Nat.zero_add]
  refine ⟨by rw [e]; exact get_mid _ _ _ _ hlow, ?_⟩
  rw [e2]
  unfold recFs
  split
  · rw [e, drop_mid _ _ _ _ hlow]; simp
  · rw [e, put_mid _ _ _ _ _ hlow]; simp
def onS (S : St) (ks : List Int) : St := if S.off then { S with fs := recAll ks 0 S.fs, armed := none, off := false } else { S with armed := none }
def KeepAt (w : World) (ro : Nat → Role) (A : Option Addr) (ks : List Int) : Prop := ∀ i, i < ks.length → ∃ ad, A = some ad ∧ ro ad.block = .none ∧ w.cell? (ad.add i) = some (.int .i64 (ks.getD i 0))
theorem KeepAt.ch {w w' : World} {ro : Nat → Role} {A : Option Addr} {ks : List Int} {M : Nat → Prop} (h : KeepAt w ro A ks) (hc : Ch w w' M) (hm : ∀ b, ro b = .none → b < w.heap.size → ¬ M b) : KeepAt w' ro A ks := fun i hi => by
  obtain ⟨ad, e, h1, h2⟩ := h i hi
  have hb : (ad.add i).block = ad.block := by unfold Addr.add; split <;> rfl
  exact ⟨ad, e, h1, hc.cell h2 (by rw [hb]; exact hm _ h1 (by have := World.block_lt_of_cell? w _ h2; rw [hb] at this; exact this))⟩
end Go.Proofs.Ytfgbaigpmhnoaaa
