/- files: what is put is there, what is elsewhere stays (plain maths). -/
import Derived.Test.YtmcafiihicanfaaDoorFilSq
set_option linter.unusedVariables false
set_option linter.unusedSimpArgs false
namespace Go.Proofs.YtmcafiihicanfaaDoor
open Go Go.RowKit Go.BigFrame
open Fil (Es Nd Sp nameB namesB okB joinP ltS)

theorem place_idx {nd : Nd} {nm : ByteArray} (h : (placeN nd nm).2 = true) : idxE nm nd.es = some (placeN nd nm).1 := by
  unfold placeN at h ⊢
  split at h
  · rename_i h4
    rw [if_pos h4]
    cases hx : idxE nm nd.es with
    | none => rw [hx] at h; cases h
    | some j => rfl
  · cases h
theorem place_none {nd : Nd} {nm : ByteArray} (h4 : nd.k = 4) (h : ¬ (placeN nd nm).2 = true) : lookE nm nd.es = none := by
  rw [look_idx]
  unfold placeN at h
  rw [if_pos h4] at h
  cases hx : idxE nm nd.es with
  | none => rfl
  | some j => rw [hx] at h; exact absurd rfl h
theorem look_set : ∀ {es : Es} {i : Nat} {nm0 : ByteArray}, idxE nm0 es = some i → ∀ (y : Nd) (nm : ByteArray), lookE nm (setE es i y) = if nm = nm0 then some y else lookE nm es
  | .nil, _, _, h, _, _ => by cases h
  | .cons n' k d s nx, i, nm0, h, y, nm => by
    unfold idxE at h
    rw [name_eq] at h
    by_cases hn : n' = nm0
    · rw [if_pos (decide_eq_true hn)] at h
      cases h
      show lookE nm (.cons n' y.k y.d y.es nx) = _
      unfold lookE
      by_cases hq : nm = nm0
      · rw [if_pos (hn.trans hq.symm), if_pos hq]
      · rw [if_neg (fun e => hq (e.symm.trans hn)), if_neg hq, if_neg (fun e => hq (e.symm.trans hn))]
    · rw [if_neg (by rw [decide_eq_false hn]; exact Bool.false_ne_true)] at h
      cases hx : idxE nm0 nx with
      | none => rw [hx] at h; cases h
      | some j =>
        rw [hx] at h
        cases h
        show lookE nm (.cons n' k d s (setE nx j y)) = _
        unfold lookE
        by_cases hq : nm = nm0
        · rw [if_neg (fun e => hn (e.trans hq)), if_pos hq, look_set hx y nm, if_pos hq]
        · rw [if_neg hq]
          by_cases hr : n' = nm
          · rw [if_pos hr, if_pos hr]
          · rw [if_neg hr, if_neg hr, look_set hx y nm, if_neg hq]
theorem look_ins : ∀ (es : Es) (i : Nat) {nm0 : ByteArray}, lookE nm0 es = none → ∀ (x : Nd) (nm : ByteArray), lookE nm (appE (takeE i es) (.cons nm0 x.k x.d x.es (dropE i es))) = if nm = nm0 then some x else lookE nm es
  | es, 0, nm0, h, x, nm => by
    have e1 : takeE 0 es = .nil := by unfold takeE; rfl
    have e2 : dropE 0 es = es := by unfold dropE; rfl
    rw [e1, e2]
    show (if nm0 = nm then some (⟨x.k, x.d, x.es⟩ : Nd) else lookE nm es) = _
    by_cases hq : nm = nm0
    · rw [if_pos hq.symm, if_pos hq]
    · rw [if_neg (fun e => hq e.symm), if_neg hq]
  | .nil, i + 1, nm0, h, x, nm => by
    show (if nm0 = nm then some (⟨x.k, x.d, x.es⟩ : Nd) else none) = _
    by_cases hq : nm = nm0
    · rw [if_pos hq.symm, if_pos hq]
    · rw [if_neg (fun e => hq e.symm), if_neg hq]; rfl
  | .cons n' k d s nx, i + 1, nm0, h, x, nm => by
    unfold lookE at h
    by_cases hn : n' = nm0
    · rw [if_pos hn] at h; cases h
    · rw [if_neg hn] at h
      show (if n' = nm then some (⟨k, d, s⟩ : Nd) else lookE nm (appE (takeE i nx) (.cons nm0 x.k x.d x.es (dropE i nx)))) = if nm = nm0 then some x else (if n' = nm then some ⟨k, d, s⟩ else lookE nm nx)
      rw [look_ins nx i h x nm]
      by_cases hq : nm = nm0
      · rw [if_neg (fun e => hn (e.trans hq)), if_pos hq, if_pos hq]
      · rw [if_neg hq, if_neg hq]
/-- What is put at a row of names is there. -/
theorem with_at : ∀ (l : List ByteArray) (nd x m : Nd), withN nd l x = some m → atN m l = some x
  | [], nd, x, m, h => by cases h; rfl
  | nm :: l, nd, x, m, h => by
    unfold withN at h
    split at h
    · rename_i h4
      split at h
      · rename_i hp
        have hi := place_idx hp
        split at h
        · rename_i y hy
          cases h
          rw [at_look, if_pos h4, look_set hi, if_pos rfl]
          exact with_at l _ x y hy
        · cases h
      · rename_i hp
        split at h
        · rename_i hl
          cases h
          subst hl
          rw [at_look, if_pos h4]
          unfold insE
          rw [look_ins nd.es _ (place_none h4 hp), if_pos rfl]
          rfl
        · cases h
    · cases h
/-- What is elsewhere is as it was. -/
theorem with_other : ∀ (l : List ByteArray) (nd x m : Nd), withN nd l x = some m → ∀ l' : List ByteArray, ¬ l <+: l' → ¬ l' <+: l → atN m l' = atN nd l'
  | [], nd, x, m, h, l', h1, _ => absurd (List.nil_prefix) h1
  | nm :: l, nd, x, m, h, [], _, h2 => absurd (List.nil_prefix) h2
  | nm :: l, nd, x, m, h, nm' :: l', h1, h2 => by
    unfold withN at h
    split at h
    · rename_i h4
      split at h
      · rename_i hp
        have hi := place_idx hp
        split at h
        · rename_i y hy
          cases h
          rw [at_look, at_look, if_pos h4, if_pos h4, look_set hi]
          by_cases hn : nm' = nm
          · subst hn
            rw [if_pos rfl, look_idx, hi]
            refine with_other l _ x y hy l' (fun q => h1 ?_) (fun q => h2 ?_)
            · exact List.cons_prefix_cons.2 ⟨rfl, q⟩
            · exact List.cons_prefix_cons.2 ⟨rfl, q⟩
          · rw [if_neg hn]
        · cases h
      · rename_i hp
        split at h
        · rename_i hl
          cases h
          subst hl
          rw [at_look, at_look, if_pos h4, if_pos h4]
          unfold insE
          rw [look_ins nd.es _ (place_none h4 hp)]
          by_cases hn : nm' = nm
          · exact absurd (List.cons_prefix_cons.2 ⟨hn.symm, List.nil_prefix⟩) h1
          · rw [if_neg hn]
        · cases h
    · cases h
theorem join_app : ∀ {l r : List ByteArray}, l ≠ [] → r ≠ [] → joinL (l ++ r) = joinP (joinL l) (joinL r)
  | [], _, h, _ => absurd rfl h
  | [a], r, _, h => joinL_cons a h
  | a :: b :: l, r, _, h => by
    show joinP a (joinL (b :: l ++ r)) = joinP (joinP a (joinL (b :: l))) (joinL r)
    rw [join_app (by simp) h, Fil.joinP_assoc]
/-- A path that a row of names begins: it is none, or the same, or a slash stands behind it. -/
theorem prefix_path {l l' : List ByteArray} (h : l <+: l') : joinL l = ⟨#[]⟩ ∨ joinL l = joinL l' ∨ ∃ r, (joinL l').data.toList = (joinL l).data.toList ++ 47 :: r := by
  obtain ⟨r, rfl⟩ := h
  by_cases hl : l = []
  · left; rw [hl]; rfl
  · by_cases hr : r = []
    · right; left; rw [hr, List.append_nil]
    · right; right
      exact ⟨(joinL r).data.toList, by rw [join_app hl hr, join_data]⟩
/-- What Put tells, where all is well. -/
theorem put_ok {nd x m : Nd} {p : ByteArray} (h : putR nd p x = (0, m)) : ∃ l, rowN p = some l ∧ withN nd l x = some m ∧ m.right = true ∧ x.right = true := by
  unfold putR at h
  split at h
  · rename_i hr
    rw [Bool.and_eq_true] at hr
    cases hl : rowN p with
    | none => rw [hl] at h; cases h
    | some l =>
      rw [hl] at h
      simp only at h
      cases hw : withN nd l x with
      | none => rw [hw] at h; cases h
      | some y =>
        rw [hw] at h
        simp only at h
        split at h
        · cases h
          exact ⟨l, rfl, hw, by assumption, hr.2⟩
        · cases h
  · cases h
end Go.Proofs.YtmcafiihicanfaaDoor
