/- files: the law's below. -/
import Derived.Test.YtmcafiihicanfaaDoorFilSr
import Derived.Test.YtmcafiihicanfaaDoorFmQ
set_option linter.unusedVariables false
set_option linter.unusedSimpArgs false
namespace Go.Proofs.YtmcafiihicanfaaDoor
open Go Go.RowKit Go.BigFrame
open Fil (Es Nd Sp)

/-- Is one path another one, or below it? -/
def belowB (p q : ByteArray) : Bool := (p.toList == []) || ((p.toList == q.toList) || (decide (p.size < q.size) && ((q.extract 0 p.size).toList == p.toList) && (q.data.toList[p.size]? == some 47)))
theorem below_prefix {l l' : List ByteArray} (h : l <+: l') : belowB (joinL l) (joinL l') = true := by
  unfold belowB
  rcases prefix_path h with h | h | ⟨r, h⟩
  · rw [h, show (⟨#[]⟩ : ByteArray).toList = [] by rw [Lib.toList_data]]
    rfl
  · rw [h, text_refl]; simp
  · generalize joinL l = p at *
    generalize joinL l' = q at *
    have hp := Lib.size_eq p
    have hq := Lib.size_eq q
    rw [h, List.length_append, List.length_cons] at hq
    have e1 : decide (p.size < q.size) = true := decide_eq_true (by omega)
    have e2 : q.extract 0 p.size = p := by
      apply str_ext
      rw [seg_data, h, List.drop_zero, Nat.sub_zero, hp, List.take_left']
      rfl
    have e3 : q.data.toList[p.size]? = some 47 := by
      rw [h, hp, List.getElem?_append_right (Nat.le_refl _), Nat.sub_self]; rfl
    rw [e1, e2, e3, text_refl]
    simp
set_option maxRecDepth 1000000 in
set_option maxRecDepth 100000 in
set_option maxHeartbeats 4000000 in
theorem below_any (p q : ByteArray) (hp : p.size ≤ maxLen) (hq : q.size ≤ maxLen) (w : World) :
    Calls Tryd.prog 33 #[.string p, .string q] w fun e W => W = w ∧ e = .returned (.bool (belowB p q)) := by
  unfold maxLen at hp hq
  have HB := Lib.hid (show belowB p q = ((p.toList == []) || ((p.toList == q.toList) || (decide (p.size < q.size) && ((q.extract 0 p.size).toList == p.toList) && (q.data.toList[p.size]? == some 47)))) from rfl)
  go_enter Tryd.func33, Tryd.ntmps33
  rcases Bool.eq_false_or_eq_true (p.toList == []) with h1 | h1
  · have HF := Lib.hid (show belowB p q = true by rw [HB.out, h1]; rfl)
    go_wp2
    go_ret
    exact ⟨rfl, by rw [HF.out]; rfl⟩
  rcases Bool.eq_false_or_eq_true (p.toList == q.toList) with h2 | h2
  · have HF := Lib.hid (show belowB p q = true by rw [HB.out, h1, h2]; rfl)
    go_wp2
    go_ret
    exact ⟨rfl, by rw [HF.out]; rfl⟩
  by_cases hlt : p.size < q.size
  rotate_left
  · have HF := Lib.hid (show belowB p q = false by rw [HB.out, h1, h2, decide_eq_false hlt]; rfl)
    go_wp2
    go_ret
    exact ⟨rfl, by rw [HF.out]; rfl⟩
  have h3 := decide_eq_true hlt
  have hltI : (p.size : Int) < (q.size : Int) := by omega
  have hleI : (p.size : Int) ≤ (q.size : Int) := by omega
  have hle : p.size ≤ q.size := by omega
  rcases Bool.eq_false_or_eq_true ((q.extract 0 p.size).toList == p.toList) with h4 | h4
  rotate_left
  · have HF := Lib.hid (show belowB p q = false by rw [HB.out, h1, h2, h3, h4]; rfl)
    go_wp2
    go_ret
    exact ⟨rfl, by rw [HF.out]; rfl⟩
  obtain ⟨x, hx⟩ : ∃ x : UInt8, q[p.size]'hlt = x := ⟨_, rfl⟩
  have HX := Lib.hid (show q.data.toList[p.size]? = some x by rw [← hx]; exact Lib.data_getElem? q p.size hlt)
  have HV := Lib.hid (show (q.data.toList[p.size]? == some 47) = ((x.toNat : Int) == 47) by
    rw [HX.out]
    by_cases h : x = 47
    · subst h; rfl
    · have e1 : (some x == some (47 : UInt8)) = false := beq_eq_false_iff_ne.2 (fun e => h (Option.some.inj e))
      rw [e1]; symm
      refine beq_eq_false_iff_ne.2 fun e => h ?_
      exact UInt8.toNat_inj.1 (show x.toNat = 47 by omega))
  rcases Bool.eq_false_or_eq_true ((x.toNat : Int) == 47) with h5 | h5
  · have HF := Lib.hid (show belowB p q = true by rw [HB.out, h1, h2, h3, h4, HV.out, h5]; rfl)
    go_wp2
    go_ret
    exact ⟨rfl, by rw [HF.out]; rfl⟩
  · have HF := Lib.hid (show belowB p q = false by rw [HB.out, h1, h2, h3, h4, HV.out, h5]; rfl)
    go_wp2
    go_ret
    exact ⟨rfl, by rw [HF.out]; rfl⟩
theorem rows_depth : ∀ {es : Es} {l : List ByteArray}, l ∈ rowsE es → l.length ≤ es.depth
  | .nil, _, h => by cases h
  | .cons nm k d s nx, l, h => by
    unfold rowsE at h
    rw [List.mem_append, List.mem_cons, List.mem_map] at h
    have e : (Es.cons nm k d s nx).depth = max (1 + s.depth) nx.depth := rfl
    rw [e]
    rcases h with (rfl | ⟨y, hy, rfl⟩) | h
    · simp; omega
    · have := rows_depth hy
      rw [List.length_cons]; omega
    · have := rows_depth h
      omega
theorem joinL_le : ∀ {l : List ByteArray}, (∀ x ∈ l, Fil.nameB x = true) → (joinL l).size ≤ 256 * l.length
  | [], _ => Nat.zero_le _
  | [a], h => by have := Fil.nameB_size (h a (List.mem_singleton.2 rfl)); show a.size ≤ _; simp; omega
  | a :: b :: l, h => by
    have h1 := Fil.nameB_size (h a List.mem_cons_self)
    have h2 := joinL_le (l := b :: l) (fun x hx => h x (List.mem_cons_of_mem _ hx))
    show (Fil.joinP a (joinL (b :: l))).size ≤ _
    unfold Fil.joinP
    have h3 : Fil.slashB.size = 1 := rfl
    rw [ByteArray.size_append, ByteArray.size_append, h3]
    simp only [List.length_cons] at *
    omega
theorem path_facts {nd : Nd} (h : nd.right = true) {q : ByteArray} (hq : q ∈ nd.paths) : q.size ≤ 8192 ∧ ∃ y, atR nd q = (0, y) := by
  obtain ⟨l, y, hl, rfl, _, _, hy⟩ := at_paths (may_parts h) hq
  refine ⟨?_, y, hy⟩
  have h1 := joinL_le (rowsN_names (may_parts h) l hl)
  have h2 : l.length ≤ nd.depth := by
    unfold rowsN at hl
    rw [List.mem_cons] at hl
    rcases hl with rfl | hl
    · exact Nat.zero_le _
    · exact rows_depth hl
  unfold Fil.Nd.right at h
  simp only [Bool.and_eq_true, decide_eq_true_eq] at h
  have h3 := h.1.2
  omega
theorem put_facts {nd x y : Nd} {p : ByteArray} (h : nd.right = true) (hp : p ∈ nd.paths) (hput : putR nd p x = (0, y)) :
    y.right = true ∧ atR y p = (0, x) ∧ ∀ q ∈ nd.paths, belowB p q = false → belowB q p = false → atR y q = atR nd q := by
  obtain ⟨l, hl, hw, hy, _⟩ := put_ok hput
  refine ⟨hy, ?_, fun q hq h1 h2 => ?_⟩
  · unfold atR
    rw [hl]
    simp only [with_at l nd x y hw]
  · obtain ⟨lp, _, hlp, rfl, hrp, _, _⟩ := at_paths (may_parts h) hp
    obtain ⟨lq, yq, hlq, rfl, hrq, _, _⟩ := at_paths (may_parts h) hq
    rw [hrp] at hl
    obtain rfl := Option.some.inj hl
    have ho := with_other lp nd x y hw lq (fun hx => by rw [below_prefix hx] at h1; cases h1) (fun hx => by rw [below_prefix hx] at h2; cases h2)
    unfold atR
    rw [hrq]
    simp only [ho]
theorem has_not {L : List ByteArray} (h : L.Nodup) {i : Nat} {q : ByteArray} (hq : L[i]? = some q) : hasL (L.take i) q = false := by
  unfold hasL
  rw [List.any_eq_false]
  intro y hy e
  rw [text_ext e] at hy
  obtain ⟨j, hj, hjq⟩ := List.getElem_of_mem hy
  have hjL : L[j]? = some q := by
    rw [List.length_take] at hj
    rw [List.getElem_take] at hjq
    rw [List.getElem?_eq_getElem (by omega), hjq]
  have hij : j < i := by rw [List.length_take] at hj; omega
  have hi : i < L.length := (List.getElem?_eq_some_iff.1 hq).1
  have hj2 : j < L.length := by omega
  rw [List.getElem?_eq_getElem hj2] at hjL
  rw [List.getElem?_eq_getElem hi] at hq
  exact List.pairwise_iff_getElem.1 h j i hj2 hi hij (Option.some.inj (hjL.trans hq.symm))
theorem txc_take {W : World} {b : Nat} {gr : Option Addr} {cap : Nat} {l : List ByteArray} (h : TxC W b (.slice gr l.length cap) l) {i : Nat} (hi : i ≤ l.length) : TxC W b (.slice gr (l.take i).length cap) (l.take i) := by
  rcases h with ⟨rfl, gr', cap', e⟩ | ⟨g, cap', cur, h1, h2, h3, h4⟩
  · exact .inl ⟨by simp, gr, cap, by simp⟩
  · injection h2 with e1 _ e3
    subst e1
    subst e3
    refine .inr ⟨g, cap, cur, h1, rfl, h3, fun j x hx => h4 j x ?_⟩
    rw [List.getElem?_take] at hx
    split at hx
    · exact hx
    · cases hx
end Go.Proofs.YtmcafiihicanfaaDoor
