/- files: paths and their names, in plain maths. -/
import Derived.Test.YtmcafiihicanfaaDoorFmSk
set_option linter.unusedVariables false
set_option linter.unusedSimpArgs false
namespace Go.Proofs.YtmcafiihicanfaaDoor
open Go Go.RowKit Go.BigFrame
open Fil (Es Nd Sp nameB namesB okB joinP ltS)

theorem less_lt (a b : List UInt8) : Op.bytesLess a b = decide (a < b) := by
  induction a generalizing b with
  | nil => cases b <;> simp [Op.bytesLess]
  | cons x a ih =>
    cases b with
    | nil => simp [Op.bytesLess]
    | cons y b =>
      rw [Op.bytesLess, ih]
      by_cases h1 : x < y
      · simp [h1, List.cons_lt_cons_iff]
      · by_cases h2 : x = y <;> simp [h1, h2, List.cons_lt_cons_iff]
theorem ltS_iff (a b : ByteArray) : ltS a b = true ↔ a.data.toList < b.data.toList := by
  unfold Fil.ltS
  rw [Lib.toList_data, Lib.toList_data, less_lt]
  simp only [Bool.not_eq_true', Bool.or_eq_false_iff, decide_eq_false_iff_not, beq_eq_false_iff_ne]
  constructor
  · rintro ⟨h1, h2⟩
    rcases Classical.em (a.data.toList < b.data.toList) with h | h
    · exact h
    · exact absurd (List.le_antisymm (List.not_lt.1 h) (List.not_lt.1 h1)) h2
  · intro h
    exact ⟨fun h2 => absurd (List.lt_trans h h2) (List.lt_irrefl _), fun e => by rw [e] at h; exact List.lt_irrefl _ h⟩
theorem ltS_trans {a b c : ByteArray} (h1 : ltS a b = true) (h2 : ltS b c = true) : ltS a c = true :=
  (ltS_iff a c).2 (List.lt_trans ((ltS_iff a b).1 h1) ((ltS_iff b c).1 h2))
theorem ltS_ne {a b : ByteArray} (h : ltS a b = true) : a ≠ b := fun e => by subst e; exact List.lt_irrefl _ ((ltS_iff a a).1 h)
/-- The rows of names that lead to all below entries. -/
def rowsE : Es → List (List ByteArray)
  | .nil => []
  | .cons nm _ _ s nx => ([nm] :: (rowsE s).map (nm :: ·)) ++ rowsE nx
def rowsN (nd : Nd) : List (List ByteArray) := [] :: rowsE nd.es
/-- A path of names. -/
def joinL : List ByteArray → ByteArray
  | [] => ⟨#[]⟩
  | [a] => a
  | a :: b :: l => joinP a (joinL (b :: l))
theorem joinL_cons (a : ByteArray) {l : List ByteArray} (h : l ≠ []) : joinL (a :: l) = joinP a (joinL l) := by
  cases l with
  | nil => exact absurd rfl h
  | cons b l => rfl
theorem rows_ne : ∀ {es : Es} {l : List ByteArray}, l ∈ rowsE es → l ≠ []
  | .nil, _, h => by cases h
  | .cons nm k d s nx, l, h => by
    unfold rowsE at h
    rw [List.mem_append, List.mem_cons, List.mem_map] at h
    rcases h with (rfl | ⟨y, _, rfl⟩) | h
    · simp
    · simp
    · exact rows_ne h
theorem paths_rows : ∀ es : Es, es.paths = (rowsE es).map joinL
  | .nil => rfl
  | .cons nm k d s nx => by
    unfold rowsE Fil.Es.paths
    rw [paths_rows s, paths_rows nx, List.map_append, List.map_cons, List.map_map, List.map_map]
    congr 2
    refine List.map_congr_left fun l hl => ?_
    exact (joinL_cons nm (rows_ne hl)).symm
theorem pathsN_rows (nd : Nd) : nd.paths = (rowsN nd).map joinL := by
  unfold Fil.Nd.paths rowsN
  rw [paths_rows]
  rfl
theorem rows_len : ∀ es : Es, (rowsE es).length = es.count
  | .nil => rfl
  | .cons nm k d s nx => by
    unfold rowsE Es.count
    simp only [List.length_append, List.length_cons, List.length_map, rows_len s, rows_len nx]
    omega
/-- Names of a right tree's rows may be. -/
theorem rows_names : ∀ {es : Es} {last : ByteArray}, namesB last es = true → es.may = true → ∀ l ∈ rowsE es, ∀ x ∈ l, nameB x = true
  | .nil, _, _, _, _, h, _, _ => by cases h
  | .cons nm k d s nx, last, hn, hm, l, hl, x, hx => by
    simp only [namesB, Bool.and_eq_true] at hn
    simp only [Es.may, Bool.and_eq_true] at hm
    unfold rowsE at hl
    rw [List.mem_append, List.mem_cons, List.mem_map] at hl
    rcases hl with (rfl | ⟨y, hy, rfl⟩) | hl
    · rw [List.mem_singleton] at hx; rw [hx]; exact hn.1.2
    · rw [List.mem_cons] at hx
      rcases hx with rfl | hx
      · exact hn.1.2
      · exact rows_names (Fil.kids_names hm.1.1) hm.1.2 y hy x hx
    · exact rows_names hn.2 hm.2 l hl x hx
theorem name_slash {nm : ByteArray} (h : nameB nm = true) : (47 : UInt8) ∉ nm.data.toList := by
  unfold Fil.nameB at h
  simp only [Bool.and_eq_true, Bool.not_eq_true'] at h
  have h2 := h.2
  rw [List.any_eq_false] at h2
  intro hm
  exact h2 47 hm (by decide)
theorem join_data (a b : ByteArray) : (joinP a b).data.toList = a.data.toList ++ 47 :: b.data.toList := by
  unfold Fil.joinP Fil.slashB
  simp [ByteArray.data_append]
theorem joinL_size : ∀ {l : List ByteArray}, l ≠ [] → (∀ x ∈ l, nameB x = true) → 1 ≤ (joinL l).size
  | [], h, _ => absurd rfl h
  | [a], _, h => nameB_pos (h a (List.mem_singleton.2 rfl))
  | a :: b :: l, _, h => by
    show 1 ≤ (joinP a _).size
    unfold Fil.joinP
    rw [ByteArray.size_append, ByteArray.size_append]
    have := nameB_pos (h a List.mem_cons_self)
    omega
theorem joinL_parts : ∀ {l : List ByteArray}, l ≠ [] → (∀ x ∈ l, nameB x = true) → Ver.parts 47 (joinL l).data.toList = l.map (·.data.toList)
  | [], h, _ => absurd rfl h
  | [a], _, h => Ver.parts_not 47 _ (name_slash (h a (List.mem_singleton.2 rfl)))
  | a :: b :: l, _, h => by
    show Ver.parts 47 (joinP a (joinL (b :: l))).data.toList = _
    rw [join_data, Ver.parts_app 47 _ _ (name_slash (h a List.mem_cons_self)), joinL_parts (by simp) (fun x hx => h x (List.mem_cons_of_mem _ hx))]
    rfl
theorem rowN_join {l : List ByteArray} (h : ∀ x ∈ l, nameB x = true) : rowN (joinL l) = some l := by
  cases l with
  | nil =>
    unfold rowN
    rw [if_pos (by show (ByteArray.toList _).isEmpty = true; rw [Lib.toList_data]; rfl)]
  | cons a l =>
    have h1 := joinL_size (by simp) h
    have h2 : piecesB 47 (joinL (a :: l)) = a :: l := texts_inj (by rw [pieces_data]; exact joinL_parts (by simp) h)
    unfold rowN
    rw [empty_not h1, if_neg Bool.false_ne_true, h2, if_pos (List.all_eq_true.2 h)]
theorem joinL_inj {l m : List ByteArray} (hl : ∀ x ∈ l, nameB x = true) (hm : ∀ x ∈ m, nameB x = true) (h : joinL l = joinL m) : l = m := by
  have h1 := rowN_join hl
  rw [h, rowN_join hm] at h1
  exact (Option.some.inj h1).symm
/-- The first entry of a name. -/
def lookE (nm : ByteArray) : Es → Option Nd
  | .nil => none
  | .cons n' k d s nx => if n' = nm then some ⟨k, d, s⟩ else lookE nm nx
theorem name_eq (a b : ByteArray) : (a.toList == b.toList) = decide (a = b) := by
  rw [Bool.eq_iff_iff, decide_eq_true_eq]
  exact ⟨text_ext, fun e => by rw [e]; exact text_refl b⟩
theorem look_idx (nm : ByteArray) : ∀ es : Es, lookE nm es = (idxE nm es).map (kidE es)
  | .nil => rfl
  | .cons n' k d s nx => by
    unfold lookE idxE
    rw [name_eq]
    by_cases h : n' = nm
    · rw [if_pos h, if_pos (decide_eq_true h)]; rfl
    · rw [if_neg h, if_neg (by rw [decide_eq_false h]; exact Bool.false_ne_true), look_idx nm nx, Option.map_map]
      rfl
theorem at_look (nd : Nd) (nm : ByteArray) (l : List ByteArray) : atN nd (nm :: l) = if nd.k = 4 then (lookE nm nd.es).bind fun y => atN y l else none := by
  show (if (placeN nd nm).2 then atN (kidE nd.es (placeN nd nm).1) l else none) = _
  unfold placeN
  rw [look_idx]
  by_cases h : nd.k = 4
  · rw [if_pos h, if_pos h]
    cases hx : idxE nm nd.es with
    | none => rfl
    | some i => rfl
  · rw [if_neg h, if_neg h]; rfl
/-- Behind a name, in a right directory, all names are greater. -/
theorem rows_above : ∀ {es : Es} {last : ByteArray}, namesB last es = true → ∀ {nm : ByteArray} {l : List ByteArray}, nm :: l ∈ rowsE es → ltS last nm = true
  | .nil, _, _, _, _, h => by cases h
  | .cons n' k d s nx, last, hn, nm, l, h => by
    simp only [namesB, Bool.and_eq_true] at hn
    unfold rowsE at h
    rw [List.mem_append, List.mem_cons, List.mem_map] at h
    rcases h with (h | ⟨y, _, h⟩) | h
    · injection h with h1 h2; rw [h1]; exact hn.1.1
    · injection h with h1 h2; rw [← h1]; exact hn.1.1
    · exact ltS_trans hn.1.1 (rows_above hn.2 h)
theorem rows_look : ∀ {es : Es} {last : ByteArray}, namesB last es = true → ∀ {nm : ByteArray} {l : List ByteArray}, nm :: l ∈ rowsE es → ∃ y, lookE nm es = some y ∧ l ∈ rowsN y
  | .nil, _, _, _, _, h => by cases h
  | .cons n' k d s nx, last, hn, nm, l, h => by
    simp only [namesB, Bool.and_eq_true] at hn
    unfold rowsE at h
    rw [List.mem_append, List.mem_cons, List.mem_map] at h
    unfold lookE
    rcases h with (h | ⟨y, hy, h⟩) | h
    · injection h with h1 h2
      rw [if_pos h1.symm, h2]
      exact ⟨_, rfl, List.mem_cons_self⟩
    · injection h with h1 h2
      rw [if_pos h1, ← h2]
      exact ⟨_, rfl, List.mem_cons_of_mem _ hy⟩
    · have := rows_above hn.2 h
      rw [if_neg (ltS_ne this)]
      exact rows_look hn.2 h
theorem look_may : ∀ {es : Es} {nm : ByteArray} {y : Nd}, es.may = true → lookE nm es = some y → y.may = true
  | .nil, _, _, _, h => by cases h
  | .cons n' k d s nx, nm, y, hm, h => by
    simp only [Es.may, Bool.and_eq_true] at hm
    unfold lookE at h
    split at h
    · cases h
      unfold Fil.Nd.may
      rw [hm.1.1, hm.1.2]; rfl
    · exact look_may hm.2 h
theorem may_dir4 {y : Nd} (h : y.may = true) (hp : 0 < y.es.len) : y.k = 4 := by
  unfold Fil.Nd.may at h
  rw [Bool.and_eq_true] at h
  have h1 := h.1
  unfold Fil.okB at h1
  split at h1
  · simp at h1; omega
  · split at h1
    · simp at h1; omega
    · split at h1
      · assumption
      · cases h1
/-- Each row of names of a right tree leads to a node. -/
theorem at_rows : ∀ (l : List ByteArray) (nd : Nd), nd.may = true → l ∈ rowsN nd → ∃ y, atN nd l = some y
  | [], nd, _, _ => ⟨nd, rfl⟩
  | nm :: l, nd, hm, h => by
    unfold rowsN at h
    rw [List.mem_cons] at h
    rcases h with h | h
    · cases h
    · have hm2 := hm
      unfold Fil.Nd.may at hm2
      rw [Bool.and_eq_true] at hm2
      obtain ⟨y, hy, hl⟩ := rows_look (Fil.kids_names hm2.1) h
      rw [at_look, if_pos (may_dir4 hm (by
        cases he : nd.es with
        | nil => rw [he] at h; cases h
        | cons _ _ _ _ _ => simp [Es.len])), hy]
      exact at_rows l y (look_may hm2.2 hy) hl
theorem rows_nodup : ∀ {es : Es} {last : ByteArray}, namesB last es = true → es.may = true → (rowsE es).Nodup
  | .nil, _, _, _ => List.nodup_nil
  | .cons nm k d s nx, last, hn, hm => by
    simp only [namesB, Bool.and_eq_true] at hn
    simp only [Es.may, Bool.and_eq_true] at hm
    have h1 := rows_nodup (Fil.kids_names hm.1.1) hm.1.2
    have h2 := rows_nodup hn.2 hm.2
    unfold rowsE
    rw [List.nodup_append]
    refine ⟨?_, h2, ?_⟩
    · rw [List.nodup_cons]
      refine ⟨?_, ?_⟩
      · rw [List.mem_map]
        rintro ⟨y, hy, e⟩
        injection e with _ e
        exact rows_ne hy e
      · exact h1.map _ (fun a b hab e => hab (by injection e))
    · intro a ha b hb hab
      subst hab
      rw [List.mem_cons, List.mem_map] at ha
      rcases ha with rfl | ⟨y, _, rfl⟩
      · exact ltS_ne (rows_above hn.2 hb) rfl
      · exact ltS_ne (rows_above hn.2 hb) rfl
theorem may_parts {nd : Nd} (h : nd.right = true) : nd.may = true := by
  unfold Fil.Nd.right at h
  simp only [Bool.and_eq_true] at h
  exact h.2
theorem rowsN_nodup {nd : Nd} (h : nd.may = true) : (rowsN nd).Nodup := by
  unfold Fil.Nd.may at h
  rw [Bool.and_eq_true] at h
  unfold rowsN
  rw [List.nodup_cons]
  exact ⟨fun hm => rows_ne hm rfl, rows_nodup (Fil.kids_names h.1) h.2⟩
theorem rowsN_names {nd : Nd} (h : nd.may = true) : ∀ l ∈ rowsN nd, ∀ x ∈ l, nameB x = true := by
  unfold Fil.Nd.may at h
  rw [Bool.and_eq_true] at h
  intro l hl
  unfold rowsN at hl
  rw [List.mem_cons] at hl
  rcases hl with rfl | hl
  · intro x hx; cases hx
  · exact rows_names (Fil.kids_names h.1) h.2 l hl
theorem paths_nodup {nd : Nd} (h : nd.may = true) : nd.paths.Nodup := by
  rw [pathsN_rows]
  have hn := rowsN_nodup h
  have hx := rowsN_names h
  generalize rowsN nd = L at hn hx
  induction L with
  | nil => exact List.nodup_nil
  | cons a L ih =>
    rw [List.nodup_cons] at hn
    rw [List.map_cons, List.nodup_cons]
    refine ⟨?_, ih hn.2 (fun l hl => hx l (List.mem_cons_of_mem _ hl))⟩
    rw [List.mem_map]
    rintro ⟨b, hb, e⟩
    exact hn.1 (joinL_inj (hx b (List.mem_cons_of_mem _ hb)) (hx a List.mem_cons_self) e ▸ hb)
theorem paths_len (nd : Nd) : nd.paths.length = nd.count := by
  rw [pathsN_rows, List.length_map]
  unfold rowsN Fil.Nd.count
  rw [List.length_cons, rows_len]
  omega
/-- At each of its paths a right tree has a node. -/
theorem at_paths {nd : Nd} (h : nd.may = true) {p : ByteArray} (hp : p ∈ nd.paths) : ∃ l y, l ∈ rowsN nd ∧ p = joinL l ∧ rowN p = some l ∧ atN nd l = some y ∧ atR nd p = (0, y) := by
  rw [pathsN_rows, List.mem_map] at hp
  obtain ⟨l, hl, rfl⟩ := hp
  obtain ⟨y, hy⟩ := at_rows l nd h hl
  have hr := rowN_join (rowsN_names h l hl)
  refine ⟨l, y, hl, rfl, hr, hy, ?_⟩
  unfold atR
  rw [hr]
  simp only [hy]
end Go.Proofs.YtmcafiihicanfaaDoor
