/- files: paths, in plain maths: by the way above (the package), by recursion (the document). -/
import Derived.Test.YtmcafiihicanfaaDoorFilP
set_option linter.unusedVariables false
set_option linter.unusedSimpArgs false
namespace Go.Proofs.YtmcafiihicanfaaDoor
namespace Fil

def slashB : ByteArray := ⟨#[47]⟩
def joinP (a b : ByteArray) : ByteArray := a ++ slashB ++ b
/-- The paths of all below entries, each ahead of those below it. -/
def Es.paths : Es → List ByteArray
  | .nil => []
  | .cons nm _ _ s nx => (nm :: s.paths.map (joinP nm)) ++ nx.paths
def Nd.paths (n : Nd) : List ByteArray := ⟨#[]⟩ :: n.es.paths
/-- A node's path, of what is kept of the nodes around by their depth. -/
def pathAt (ab : Nat → ByteArray) (x : Sp) : ByteArray := if 1 < x.dep then joinP (ab (x.dep - 1)) x.nm else x.nm
def putAb (ab : Nat → ByteArray) (d : Nat) (p : ByteArray) : Nat → ByteArray := fun j => if j = d then p else ab j
def pathsF : (Nat → ByteArray) → List Sp → List ByteArray
  | _, [] => []
  | ab, x :: l => pathAt ab x :: pathsF (putAb ab x.dep (pathAt ab x)) l
def abF : (Nat → ByteArray) → List Sp → (Nat → ByteArray)
  | ab, [] => ab
  | ab, x :: l => abF (putAb ab x.dep (pathAt ab x)) l
theorem pathsF_app : ∀ (l m : List Sp) (ab : Nat → ByteArray), pathsF ab (l ++ m) = pathsF ab l ++ pathsF (abF ab l) m
  | [], _, _ => rfl
  | x :: l, m, ab => by simp only [List.cons_append, pathsF, abF, pathsF_app l m]
theorem abF_app : ∀ (l m : List Sp) (ab : Nat → ByteArray), abF ab (l ++ m) = abF (abF ab l) m
  | [], _, _ => rfl
  | x :: l, m, ab => by simp only [List.cons_append, abF, abF_app l m]
theorem pathsF_snoc (l : List Sp) (x : Sp) (ab : Nat → ByteArray) : pathsF ab (l ++ [x]) = pathsF ab l ++ [pathAt (abF ab l) x] := by rw [pathsF_app]; rfl
theorem abF_snoc (l : List Sp) (x : Sp) (ab : Nat → ByteArray) : abF ab (l ++ [x]) = putAb (abF ab l) x.dep (pathAt (abF ab l) x) := by rw [abF_app]; rfl
theorem joinP_assoc (a b c : ByteArray) : joinP a (joinP b c) = joinP (joinP a b) c := by
  unfold joinP
  simp only [ByteArray.append_assoc]
/-- What stands ahead of a path that lies at a depth. -/
def preP (i : Nat) (ab : Nat → ByteArray) (k : ByteArray) : ByteArray := if 1 < i then joinP (ab (i - 1)) k else k
theorem preP_join (i : Nat) (ab : Nat → ByteArray) (a k : ByteArray) : preP i ab (joinP a k) = joinP (preP i ab a) k := by
  unfold preP
  split
  · rw [joinP_assoc]
  · rfl
theorem Es.flat_paths : ∀ (e : Es) (i : Nat) (ab : Nat → ByteArray), 1 ≤ i → pathsF ab (e.flat i) = e.paths.map (preP i ab) ∧ ∀ j, j < i → abF ab (e.flat i) j = ab j
  | .nil, _, _, _ => ⟨rfl, fun _ _ => rfl⟩
  | .cons nm k d s nx, i, ab, hi => by
    have hp : pathAt ab ⟨i, nm, ⟨k, d, s⟩⟩ = preP i ab nm := rfl
    obtain ⟨h1, h2⟩ := s.flat_paths (i + 1) (putAb ab i (preP i ab nm)) (by omega)
    obtain ⟨h3, h4⟩ := nx.flat_paths i (abF (putAb ab i (preP i ab nm)) (s.flat (i + 1))) hi
    have hab : ∀ j, j < i → abF (putAb ab i (preP i ab nm)) (s.flat (i + 1)) j = ab j := fun j hj => by
      rw [h2 j (by omega)]
      unfold putAb
      rw [if_neg (by omega)]
    have hpre : preP i (abF (putAb ab i (preP i ab nm)) (s.flat (i + 1))) = preP i ab := by
      generalize abF (putAb ab i (preP i ab nm)) (s.flat (i + 1)) = q at hab
      funext x
      unfold preP
      split
      · rw [hab (i - 1) (by omega)]
      · rfl
    have hsub : preP (i + 1) (putAb ab i (preP i ab nm)) = joinP (preP i ab nm) := by
      funext x
      unfold preP putAb
      rw [if_pos (by omega), if_pos (by omega)]
    have hfl : (Es.cons nm k d s nx).flat i = ⟨i, nm, ⟨k, d, s⟩⟩ :: (s.flat (i + 1) ++ nx.flat i) := rfl
    refine ⟨?_, fun j hj => ?_⟩
    · rw [hfl, pathsF, pathsF_app, hp, h1, h3, hpre, hsub]
      simp only [Es.paths, List.map_append, List.map_cons, List.map_map, List.cons_append]
      congr 1
      congr 1
      refine List.map_congr_left fun x _ => ?_
      exact (preP_join i ab nm x).symm
    · rw [hfl, abF, abF_app, hp, h4 j hj, hab j hj]
theorem Nd.flat_paths (n : Nd) (ab : Nat → ByteArray) : pathsF ab n.flat = n.paths := by
  unfold Nd.flat
  rw [pathsF]
  have h := (n.es.flat_paths 1 (putAb ab 0 (pathAt ab ⟨0, ⟨#[]⟩, n⟩)) (Nat.le_refl _)).1
  show _ :: pathsF (putAb ab 0 _) _ = _
  rw [h]
  unfold Nd.paths
  congr 1
  rw [List.map_congr_left (g := id)]
  · simp
  · intro x _; rfl
theorem kids_names {k : Nat} {d : ByteArray} {s : Es} (h : okB k d s = true) : namesB ⟨#[]⟩ s = true := by
  unfold okB at h
  split at h
  · simp at h
    cases s with
    | nil => rfl
    | cons _ _ _ _ _ => simp [Es.len] at h
  · split at h
    · simp at h
      cases s with
      | nil => rfl
      | cons _ _ _ _ _ => simp [Es.len] at h
    · split at h
      · simp only [Bool.and_eq_true] at h
        exact h.2
      · cases h
theorem nameB_size {nm : ByteArray} (h : nameB nm = true) : nm.size ≤ 255 := by
  unfold nameB at h
  simp only [Bool.and_eq_true, decide_eq_true_eq] at h
  exact h.1.1.1.2
theorem Es.flat_names : ∀ (e : Es) (i : Nat) (last : ByteArray), namesB last e = true → e.may = true → ∀ x ∈ e.flat i, x.nm.size ≤ 255
  | .nil, _, _, _, _, x, hx => by simp [Es.flat] at hx
  | .cons nm k d s nx, i, last, hn, hm, x, hx => by
    simp only [namesB, Bool.and_eq_true] at hn
    simp only [Es.may, Bool.and_eq_true] at hm
    simp only [Es.flat, List.mem_cons, List.mem_append] at hx
    rcases hx with rfl | hx | hx
    · exact nameB_size hn.1.2
    · exact s.flat_names (i + 1) _ (kids_names hm.1.1) hm.1.2 x hx
    · exact nx.flat_names i _ hn.2 hm.2 x hx
theorem Nd.flat_names {n : Nd} (h : n.right = true) : ∀ x ∈ n.flat, x.nm.size ≤ 255 ∧ x.dep ≤ 32 := by
  unfold Nd.right at h
  simp only [Bool.and_eq_true, decide_eq_true_eq] at h
  obtain ⟨⟨h1, h2⟩, h3⟩ := h
  have hd : ∀ x ∈ n.flat, x.dep ≤ 32 := by rw [← deepL_le, n.flat_deep]; exact h2
  intro x hx
  refine ⟨?_, hd x hx⟩
  unfold Nd.may at h3
  simp only [Bool.and_eq_true] at h3
  unfold Nd.flat at hx
  rcases List.mem_cons.1 hx with rfl | hx
  · show ByteArray.size ⟨#[]⟩ ≤ 255
    decide
  · exact n.es.flat_names 1 _ (kids_names h3.1) h3.2 x hx
theorem Nd.right_count {n : Nd} (h : n.right = true) : n.flat.length ≤ 4096 := by
  unfold Nd.right at h
  simp only [Bool.and_eq_true, decide_eq_true_eq] at h
  rw [n.flat_len]
  exact h.1.1
end Fil
end Go.Proofs.YtmcafiihicanfaaDoor
