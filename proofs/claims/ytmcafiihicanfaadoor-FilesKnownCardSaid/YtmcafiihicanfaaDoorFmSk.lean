/- files: the reference's Paths. -/
import Derived.Test.YtmcafiihicanfaaDoorFilSj
import Derived.Test.YtmcafiihicanfaaDoorFilQd
set_option linter.unusedVariables false
set_option linter.unusedSimpArgs false
namespace Go.Proofs.YtmcafiihicanfaaDoor
open Go Go.RowKit Go.BigFrame
open Fil (Es Nd Sp)

/-- The reference's paths: of a right tree, else none. -/
def pathsQ (nd : Nd) : List ByteArray := if nd.right then pathsG nd else []
set_option maxRecDepth 1000000 in
set_option maxRecDepth 100000 in
set_option maxHeartbeats 2000000 in
theorem refPaths_any (w : World) (B : Nat) (hB : B ≤ w.heap.size) (v : Value) (nd : Nd) (hv : NdV w B v nd) (hw : weiE nd.es ≤ 1000000) :
    Calls Tryd.prog 26 #[v] w fun e W => Below w.heap.size w W ∧ ∃ v', e = .returned v' ∧ W.ownsRow w.heap.size 9 1 v' (pathsQ nd).length ((pathsQ nd).map Value.string) := by
  obtain ⟨ev, rfl, hes, hd, hk⟩ := hv
  obtain ⟨A, c, rfl, hlc, hcm⟩ := hes.form
  have hcn : nd.es.count ≤ 1000000 := Nat.le_trans (wei_count nd.es) hw
  go_enter Tryd.func26, Tryd.ntmps26
  obtain ⟨w1, e1, hg1, hb1, hz1⟩ : ∃ w1, w1 = w.alloc (.cells #[.int .u8 (nd.k : Int), .string nd.d, .slice A nd.es.len c] 26) ∧ w1.heap[w.heap.size]? = some (.cells #[.int .u8 (nd.k : Int), .string nd.d, .slice A nd.es.len c] 26 (0, 0)) ∧ Below w.heap.size w w1 ∧ w1.heap.size = w.heap.size + 1 := ⟨_, rfl, heap_alloc_new _ _, (Below.refl _ _).alloc (Nat.le_refl _) _, by simp⟩
  go_upto_region 1 with (fail)
  rw [← e1]
  clear e1
  have HV := Lib.hid (fun (w' : World) (h : KeepW w1 w1.heap.size w') => show NdV w' B (.agg #[.int .u8 (nd.k : Int), .string nd.d, .slice A nd.es.len c]) nd from ⟨_, rfl, hes.keep ((below_step hb1 h.1 (by omega)).mono hB), hd, hk⟩)
  have HC := Lib.hid (fun (w' : World) (h : KeepW w1 w1.heap.size w') => nd_box (W := w') (k := nd.k) (d := nd.d) (v := .slice A nd.es.len c) ((h.1.block w.heap.size (by omega)).trans hg1))
  have HB := Lib.hid (fun (w' : World) (h : KeepW w1 w1.heap.size w') => below_step hb1 h.1 (by omega))
  have HK0 := Lib.hid (KeepW.start (Nat.le_refl w1.heap.size))
  have HZ := Lib.hid hz1
  have HRT := Lib.hid (fun (w' : World) (h : KeepW w1 w1.heap.size w') => h.calls (refRight_any w' B (by have := h.2; have := HZ.out; omega) _ nd (HV.out w' h) hcn))
  have HPA := Lib.hid (fun (w' : World) (h : KeepW w1 w1.heap.size w') => refpaths_any _ nd (Nat.le_refl _) hw w' B (by have := h.2; have := HZ.out; omega) _ (HV.out w' h))
  obtain ⟨hn0, hn1, hn2, _⟩ := HC.out w1 HK0.out
  clear hg1 hb1 hz1 hes
  cases hr : nd.right with
  | false =>
    have HQ := Lib.hid (show pathsQ nd = [] by unfold pathsQ; rw [hr]; rfl)
    rw [hr] at HRT
    go_wp2_with fail
    refine (HRT.out w1 HK0.out).mono ?_
    rintro e W1 ⟨rfl, hk1⟩
    have HK1 := Lib.hid hk1
    clear hk1 hn0 hn1 hn2
    go_wp2_with fail
    go_ret
    refine ⟨HB.out _ HK1.out, _, rfl, ?_⟩
    rw [HQ.out]
    exact World.ownsRow_nil _ _ _ _
  | true =>
    have HQ := Lib.hid (show pathsQ nd = pathsG nd by unfold pathsQ; rw [hr]; rfl)
    rw [hr] at HRT
    go_wp2_with fail
    refine (HRT.out w1 HK0.out).mono ?_
    rintro e W1 ⟨rfl, hk1⟩
    have HK1 := Lib.hid hk1
    clear hk1 hn0 hn1 hn2
    obtain ⟨hn0, hn1, hn2, _⟩ := HC.out W1 HK1.out
    go_wp2_with fail
    refine (HPA.out W1 HK1.out).mono ?_
    rintro e W2 ⟨hb2, v2, rfl, hown2⟩
    have HBF := Lib.hid (HB.out _ (HK1.out.step hb2))
    have HO := Lib.hid hown2
    clear hb2 hown2 hn0 hn1 hn2
    go_wp2_with fail
    go_ret
    refine ⟨HBF.out, _, rfl, ?_⟩
    rw [HQ.out]
    obtain ⟨h1, h2⟩ := HO.out
    refine ⟨h1, ?_⟩
    rcases h2 with h | ⟨g, cap, cur, a1, a2, a3⟩
    · exact .inl h
    · exact .inr ⟨g, cap, cur, a1, by have := HK1.out.2; have := HZ.out; omega, a3⟩
end Go.Proofs.YtmcafiihicanfaaDoor

/- files: the reference's put, in plain maths. -/
namespace Go.Proofs.YtmcafiihicanfaaDoor
open Go Go.RowKit Go.BigFrame
open Fil (Es Nd Sp)

/-- What the reference's put answers: a tree, whether or not all is well. -/
def putP : Nd → List ByteArray → Nd → Nd × Bool
  | _, [], x => (x, true)
  | nd, nm :: l, x => if nd.k = 4 then
      (if (placeN nd nm).2 then (⟨nd.k, nd.d, setE nd.es (placeN nd nm).1 (putP (kidE nd.es (placeN nd nm).1) l x).1⟩, (putP (kidE nd.es (placeN nd nm).1) l x).2)
      else if l = [] then (⟨nd.k, nd.d, insE nm x nd.es⟩, true) else (nd, false))
    else (nd, false)
theorem putP_with : ∀ (l : List ByteArray) (nd x : Nd), withN nd l x = if (putP nd l x).2 then some (putP nd l x).1 else none
  | [], nd, x => rfl
  | nm :: l, nd, x => by
    unfold withN putP
    by_cases h4 : nd.k = 4
    · rw [if_pos h4, if_pos h4]
      by_cases hp : (placeN nd nm).2 = true
      · rw [if_pos hp, if_pos hp, putP_with l]
        cases hq : (putP (kidE nd.es (placeN nd nm).1) l x).2
        · simp
        · simp
      · rw [if_neg hp, if_neg hp]
        by_cases hl : l = []
        · rw [if_pos hl, if_pos hl]; rfl
        · rw [if_neg hl, if_neg hl]; rfl
    · rw [if_neg h4, if_neg h4]; rfl
theorem idx_name {nm : ByteArray} : ∀ {es : Es} {i : Nat}, idxE nm es = some i → nmE es i = nm
  | .nil, _, h => by cases h
  | .cons n' _ _ _ nx, i, h => by
    unfold idxE at h
    split at h
    · rename_i hq
      cases h
      exact text_ext hq
    · cases hx : idxE nm nx with
      | none => rw [hx] at h; cases h
      | some j =>
        rw [hx] at h
        cases h
        show nmE nx j = nm
        exact idx_name hx
theorem place_name {nd : Nd} {nm : ByteArray} (h : (placeN nd nm).2 = true) : nmE nd.es (placeN nd nm).1 = nm := by
  unfold placeN at h ⊢
  split at h
  · cases hx : idxE nm nd.es with
    | none => rw [hx] at h; cases h
    | some j => rename_i h4; rw [if_pos h4]; exact idx_name hx
  · cases h
/-- The reference's Put answers what Put answers. -/
theorem putR_ref (nd x : Nd) (s : ByteArray) (l : List ByteArray) (hr : nd.right = true) (hx : x.right = true) (hl : rowN s = some l) :
    putR nd s x = if (putP nd l x).2 then (if (putP nd l x).1.right then (0, (putP nd l x).1) else (70, zNd)) else (5, zNd) := by
  unfold putR
  rw [hr, hx, hl]
  simp only [Bool.and_self, if_true]
  rw [putP_with]
  cases hq : (putP nd l x).2 <;> simp
end Go.Proofs.YtmcafiihicanfaaDoor

/- files: paths in plain maths: the reference's are the package's. -/
namespace Go.Proofs.YtmcafiihicanfaaDoor
open Go Go.RowKit Go.BigFrame
open Fil (Es Nd Sp nameB namesB okB joinP)

theorem nameB_pos {nm : ByteArray} (h : nameB nm = true) : 1 ≤ nm.size := by
  unfold Fil.nameB at h
  simp only [Bool.and_eq_true, decide_eq_true_eq] at h
  exact h.1.1.1.1
theorem empty_not {x : ByteArray} (h : 1 ≤ x.size) : x.toList.isEmpty = false := by
  rw [empty_size, decide_eq_false]; omega
theorem pathsE_eq : ∀ (es : Es) (last : ByteArray), namesB last es = true → es.may = true → pathsE es = es.paths ∧ ∀ x ∈ es.paths, 1 ≤ x.size
  | .nil, _, _, _ => ⟨rfl, fun x hx => by cases hx⟩
  | .cons nm k d s nx, last, hn, hm => by
    simp only [namesB, Bool.and_eq_true] at hn
    simp only [Es.may, Bool.and_eq_true] at hm
    obtain ⟨h1, h2⟩ := pathsE_eq s _ (Fil.kids_names hm.1.1) hm.1.2
    obtain ⟨h3, h4⟩ := pathsE_eq nx _ hn.2 hm.2
    have hnm := nameB_pos hn.1.2
    refine ⟨?_, fun x hx => ?_⟩
    · simp only [pathsE, Es.paths, h1, h3, List.map_cons]
      have e0 : pjS nm ⟨#[]⟩ = nm := by
        unfold pjS
        rw [if_pos (by rw [empty_size]; rfl)]
      rw [e0]
      congr 2
      refine List.map_congr_left fun x hx => ?_
      unfold pjS
      rw [if_neg (by rw [empty_not (h2 x hx)]; exact Bool.false_ne_true)]
      rfl
    · simp only [Es.paths, List.mem_append, List.mem_cons, List.mem_map] at hx
      rcases hx with (rfl | ⟨y, hy, rfl⟩) | hx
      · exact hnm
      · unfold Fil.joinP
        rw [ByteArray.size_append, ByteArray.size_append]
        omega
      · exact h4 x hx
theorem paths_same {nd : Nd} (h : nd.right = true) : pathsG nd = nd.paths := by
  unfold Nd.right at h
  simp only [Bool.and_eq_true] at h
  have h3 := h.2
  unfold Nd.may at h3
  simp only [Bool.and_eq_true] at h3
  unfold pathsG Nd.paths
  rw [(pathsE_eq nd.es _ (Fil.kids_names h3.1) h3.2).1]
theorem pathsQ_R (nd : Nd) : pathsQ nd = pathsR nd := by
  unfold pathsQ pathsR
  cases h : nd.right with
  | false => rfl
  | true => simp only [if_true]; exact paths_same h
end Go.Proofs.YtmcafiihicanfaaDoor
