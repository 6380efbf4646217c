/- scan: All, walked. -/
import Derived.Test.YtadlimfpcfdgcaaSmA
set_option linter.unusedVariables false
set_option linter.unusedSimpArgs false
namespace Go.Proofs.Ytadlimfpcfdgcaa
open Go Go.RowKit Go.BigFrame Go.Maps
open Scn (runOf wins firsts)
attribute [local go_sem] Oper.semAt_some

/-- What All answers: a row of the call's own. -/
def AllPost (w : World) (xs : List ByteArray) (e : Ending) (W : World) : Prop :=
  Below w.heap.size w W ∧ ∃ v, e = .returned v ∧ W.ownsRow w.heap.size 9 1 v xs.length (strs xs)
/-- Between two rounds of All. -/
structure AllR (w W0 : World) (bo mb bm : Nat) (pre : List T32) (W : World) : Prop where
  out : ∃ v, Boxed W bo 24 v ∧ W.ownsRow W0.heap.size 9 1 v (firsts (pre.map (·.1))).length (strs (firsts (pre.map (·.1))))
  seen : SeenAt W mb (firsts (pre.map (·.1)))
  map : Boxed W bm 47 (.map (some mb))
  below : Below w.heap.size w W
  size : W0.heap.size ≤ W.heap.size
theorem own_base {w : World} {base b n sz : Nat} {e : TypeId} {v : Value} {xs : List Value} (h : w.ownsRow base e sz v n xs) (hb : b ≤ base) : w.ownsRow b e sz v n xs := by
  obtain ⟨hl, h0 | ⟨g, cap, cur, e1, h1, h2⟩⟩ := h
  · exact ⟨hl, .inl h0⟩
  · exact ⟨hl, .inr ⟨g, cap, cur, e1, Nat.le_trans hb h1, h2⟩⟩
theorem own_ge {w : World} {base n sz k : Nat} {e : TypeId} {v : Value} {xs : List Value} (h : w.ownsRow base e sz v n xs) (hk : v.ownBlock = some k) : base ≤ k := by
  obtain ⟨hl, ⟨rfl, _⟩ | ⟨g, cap, cur, rfl, h1, h2⟩⟩ := h
  · simp [Value.ownBlock] at hk
  · have : g = k := by simpa [Value.ownBlock] using hk
    omega
theorem own_cells {w : World} {base n sz k : Nat} {e : TypeId} {v : Value} {xs : List Value} {o : Obj} (h : w.ownsRow base e sz v n xs) (hk : v.ownBlock = some k) (ho : w.heap[k]? = some o) : o.isCells = true := by
  obtain ⟨hl, ⟨rfl, _⟩ | ⟨g, cap, cur, rfl, h1, h2, _⟩⟩ := h
  · simp [Value.ownBlock] at hk
  · have : g = k := by simpa [Value.ownBlock] using hk
    subst this
    rw [ho] at h2
    cases h2
    rfl
theorem own_kept {w w' : World} {base n sz : Nat} {e : TypeId} {v : Value} {xs : List Value} {row : Option Nat} (h : w.ownsRow base e sz v n xs) (hg : w.grownBy w' row) (hr : ∀ r, row = some r → r < base) : w'.ownsRow base e sz v n xs := by
  refine h.kept hg ?_
  cases hb : v.ownBlock with
  | none =>
    rcases h.2 with ⟨rfl, _⟩ | ⟨g, cap, cur, rfl, _, hgb, _⟩
    · exact .inl rfl
    · simp [Value.ownBlock] at hb
  | some k => exact .inr fun e' => by have := own_ge h hb; have := hr k e'.symm; omega
set_option maxRecDepth 100000 in
set_option maxHeartbeats 4000000 in
theorem all_any (v : Value) (l : List UInt8) (B : Nat) (w : World) (hv : BytAt w B v l) (hBw : B ≤ w.heap.size) (hl : l.length ≤ 1000000) :
    Calls Try.prog 7 #[v] w (AllPost w (allF (strOf l))) := by
  refine (callsIn_wide (n := 6)).1 ?_
  have hro : Fence.wide.round = none := rfl
  have hconv := hv.conv
  obtain ⟨A, cap, rfl, hlc, hcm, hAn, hh⟩ := hv
  have hmm := @run_makeMap Try.prog
  refine callsIn_of_wp_marks Try.func7 rfl trivial ?_ hro
  simp only [Try.ntmps7, List.size_toArray, List.length_cons, List.length_nil, Nat.reduceAdd, Nat.reduceSub, Array.replicate_succ, Array.replicate_zero, List.push_toArray, List.append_toArray, List.nil_append, List.cons_append]
  have hB0 : B ≤ w.heap.size := hBw
  obtain ⟨W1, e1⟩ : ∃ W1, W1 = ((w.alloc (.cells #[.slice none 0 0] 24)).alloc (.map #[] 0)).alloc (.cells #[.map (some (w.heap.size + 1))] 47) := ⟨_, rfl⟩
  have hb1 : Below w.heap.size w W1 := by rw [e1]; exact (((Below.refl _ w).alloc (Nat.le_refl _) _).alloc (by simp) _).alloc (by simp; omega) _
  have hz1 : W1.heap.size = w.heap.size + 3 := by rw [e1]; simp
  have hbo : Boxed W1 w.heap.size 24 (.slice none 0 0) := by rw [e1]; exact ((Boxed.new w _ _).alloc _).alloc _
  have hse : SeenAt W1 (w.heap.size + 1) [] := by
    rw [e1]
    have := SeenAt.made (w.alloc (.cells #[.slice none 0 0] 24))
    simp only [World.size_alloc] at this
    exact this.kept (World.grownBy_alloc _ _ none) (by simp)
  have hbm : Boxed W1 (w.heap.size + 1 + 1) 47 (.map (some (w.heap.size + 1))) := by
    rw [e1]
    have := Boxed.new ((w.alloc (.cells #[.slice none 0 0] 24)).alloc (.map #[] 0)) 47 (.map (some (w.heap.size + 1)))
    simp only [World.size_alloc] at this
    exact this
  have hconv2 := BytAt.conv (W := W1) (B := B) (v := .slice A l.length cap) (l := l) ⟨A, cap, rfl, hlc, hcm, hAn, hh.below (hb1.mono hB0)⟩
  rw [e1] at hconv2
  have HF := Lib.hid (And.intro hb1 (And.intro hz1 (And.intro hbo (And.intro hse hbm))))
  rw [e1] at HF
  clear hb1 hz1 hbo hse hbm hh e1 W1
  gi_wp2_with (refine ⟨trivial, ((callsIn_wide (n := 5)).2 (windows_any (strOf l) _)).mono ?_⟩; rintro e W1 ⟨rfl, rfl⟩)
  clear hconv hconv2
  obtain ⟨W1, e1⟩ : ∃ W1, W1 = ((w.alloc (.cells #[.slice none 0 0] 24)).alloc (.map #[] 0)).alloc (.cells #[.map (some (w.heap.size + 1))] 47) := ⟨_, rfl⟩
  rw [← e1] at HF ⊢
  clear e1
  obtain ⟨hb1, hz1, hbo, hse, hbm⟩ := HF.out
  clear HF
  have hbt : (W1.alloc (.cells #[.string (strOf l)] 9)).heap[w.heap.size + 1 + 1 + 1]? = some (.cells #[.string (strOf l)] 9 (0, 0)) := by
    have := heap_alloc_new W1 (.cells #[.string (strOf l)] 9)
    rw [hz1] at this; exact this
  have hsl : (strOf l).size ≤ maxLen := by rw [strOf_size]; unfold maxLen; omega
  have h0 : AllR w (W1.alloc (.cells #[.string (strOf l)] 9)) w.heap.size (w.heap.size + 1) (w.heap.size + 1 + 1) [] (W1.alloc (.cells #[.string (strOf l)] 9)) :=
    ⟨⟨_, hbo.alloc _, World.ownsRow_nil _ _ _ _⟩, hse.kept (World.grownBy_alloc _ _ none) (by simp), hbm.alloc _, hb1.alloc (by omega) _, Nat.le_refl _⟩
  have hz2 : (W1.alloc (.cells #[.string (strOf l)] 9)).heap.size = w.heap.size + 4 := by simp [hz1]
  generalize W1.alloc (.cells #[.string (strOf l)] 9) = W2 at *
  clear hb1 hz1 hbo hse hbm W1
  refine wpIn_rangeFunc_ownG hro (by omega) (gf := 31) (lb := #[.pointer (some ⟨w.heap.size + 1 + 1 + 1, 0, none⟩)]) rfl trivial (enters_of Try.func31 (by kernel_rfl) rfl)
    (windows_stops 5 (by omega) W2 (w.heap.size + 1 + 1 + 1) (strOf l) hsl hbt) (fun h k => h.trans k) (fun W j o o' hj hjo _ _ => ((grownBy_putObj' W j o').block (w.heap.size + 1 + 1 + 1) (by have := block_lt hjo; omega) (fun e => by cases e; omega))) (Below.refl _ _) (fun _ => rfl)
    (AllR w W2 w.heap.size (w.heap.size + 1) (w.heap.size + 1 + 1)) (fun _ _ _ => False) ?own (fun _ _ _ _ _ hs _ _ => hs) h0
    (fun x => { tmps := #[Value.slice A l.length cap, undef, Value.slice none 0 0,
          Value.pointer (some { block := w.heap.size, off := 0 }),
          Value.pointer (some { block := w.heap.size + 1 + 1, off := 0 }), .string x.1, undef, undef,
          Value.map (some (w.heap.size + 1)), Value.slice A l.length cap, Value.string (strOf l),
          Value.func (Fn.func 31) #[] #[Value.pointer (some { block := w.heap.size + 1 + 1 + 1, off := 0 })], .string x.1,
          undef, undef, undef, undef, undef, undef, undef, undef, undef, undef, undef, undef, undef, undef, undef,
          undef, undef, undef], defers := [] }) ?assign ?body ?done ?stop
  case own =>
    intro s X Y row hs hg hr
    obtain ⟨⟨v, hv, hrow⟩, hse, hbm, hB, hz⟩ := hs
    refine ⟨⟨v, hv.kept hg (fun e => ?_), hrow.kept hg ?_⟩, hse.kept hg (fun e => ?_), hbm.kept hg (fun e => ?_), hB.grown hg hB.size (fun k e => ?_), Nat.le_trans hz hg.size⟩
    · have := (hr _ e.symm).1; omega
    · rcases hrow.2 with ⟨rfl, _⟩ | ⟨g, cap, cur, rfl, _, hgb, _⟩
      · exact .inl rfl
      · refine .inr fun e' => ?_
        obtain ⟨o, ho, hc⟩ := (hr g (by simpa [Value.ownBlock] using e'.symm)).2
        rw [hgb] at ho; cases ho; cases hc
    · have := (hr _ e.symm).1; omega
    · have := (hr _ e.symm).1; omega
    · have := (hr _ e).1; omega
  case assign =>
    intro l' x W K hK
    gi_wp2
    exact hK
  case body =>
    rintro l' pre x W ⟨⟨v, hv, hrow⟩, ⟨D, hD1, hD2⟩, hbm, hB, hz⟩ hlen
    obtain ⟨L, hL⟩ : ∃ L, L = firsts (pre.map (·.1)) := ⟨_, rfl⟩
    have HLX := Lib.hid (show firsts ((pre ++ [x]).map (·.1)) = if isIn x.1 L = true then L else L ++ [x.1] by
      rw [List.map_append, List.map_cons, List.map_nil, Scn.firsts_snoc, ← hL]
      by_cases h : x.1 ∈ L
      · rw [if_pos h, if_pos ((isIn_iff _ _).2 h)]
      · rw [if_neg h, if_neg (fun e => h ((isIn_iff _ _).1 e))])
    have hLn : L.length ≤ 1000000 := by
      rw [hL]
      refine Nat.le_trans (firsts_len _) ?_
      rw [List.length_map]
      have := winB_len (strOf l)
      rw [strOf_size] at this
      omega
    rw [← hL] at hrow hD1 hD2
    clear hL
    have hcM := hbm.cell
    have hcV := hv.cell
    have hxs : x.1.size ≤ maxLen := by rw [x.2]; decide
    have hD3 := hD2 x.1
    have hcMa : (W.alloc (.cells #[] 51)).cell? ⟨w.heap.size + 1 + 1, 0, none⟩ = some (.map (some (w.heap.size + 1))) := (hbm.alloc _).cell
    cases hin : isIn x.1 L with
    | true =>
      rw [hin] at hD3 HLX
      rw [if_pos rfl] at HLX
      gi_wp2_with (gi_at_lookup; refine wpListIn_lookup_own_unit _ rfl _ _ 47 rfl 9 51 keyStr Try.underlying47 (zeroUnit _) (w.heap.size + 1) _ D rfl hD1 _ (kS x.1) rfl (Go.WideMaps.keyOf_string_mk Try.underlying9 hxs) ?_; rw [hD3])
      refine ⟨(KeepsOthers.alloc _ _).from _, ?_, ⟨v, hv.alloc _, ?_⟩, ?_, hbm.alloc _, hB.alloc hB.size _, by simp; omega⟩
      · exact Below.heap_alloc _ _ _ (by omega)
      · rw [HLX.out]; exact hrow.alloc _
      · rw [HLX.out]; exact ⟨D, hD1.alloc _, hD2⟩
    | false =>
      rw [hin] at hD3 HLX
      rw [if_neg (by simp)] at HLX
      obtain ⟨i0, hi0, hz0, hz1, hzb⟩ := info_parts infoStr
      have HXL := Lib.hid (show x.1.data.toList.length = x.1.size by rw [Array.length_toList]; rfl)
      have HMP := Lib.hid (And.intro hD1 (And.intro hD2 hbm))
      have HOW := Lib.hid (And.intro hv (And.intro hrow (And.intro hB hz)))
      have hDa := hD1.alloc (.cells #[] 51)
      clear hD2 hbm hv hrow
      gi_wp2_with (first | (gi_at_lookup; refine wpListIn_lookup_own_unit _ rfl _ _ 47 rfl 9 51 keyStr Try.underlying47 (zeroUnit _) (w.heap.size + 1) _ D rfl hD1 _ (kS x.1) rfl (Go.WideMaps.keyOf_string_mk Try.underlying9 hxs) ?_; rw [hD3]) | (gi_at_mapUpdate; refine wpListIn_mapUpdate_own _ rfl _ _ _ 47 rfl 9 51 keyStr Try.underlying47 _ (w.heap.size + 1) L.length D rfl hDa (by unfold maxLen; omega) _ _ (kS x.1) rfl rfl (Go.WideMaps.keyOf_string_mk Try.underlying9 hxs) (.agg []) [] unitElem_mk ?_; intro w1 hown1 hgrow1; have hv1 := (HOW.out.1.alloc (.cells #[] 51)).kept hgrow1 (by simp); obtain ⟨A2, cap2, w2, hcv2, hb2, hbt2⟩ := bytes_conv w1 x.1.data.toList (show x.1.size ≤ maxLen from hxs); rw [strOf_list] at hcv2; have hcb2 := hbt2.conv; rw [strOf_list, HXL.out] at hcb2; have hcV1 := hv1.cell; have hv2 : Boxed w2 w.heap.size 24 v := (hb2.block _ hv1.lt).trans hv1; have hrow2 := own_below (own_kept (HOW.out.2.1.alloc (.cells #[] 51)) hgrow1 (fun r e => by cases e; omega)) hb2 (Nat.le_refl _); have hsz2 : W.heap.size ≤ w2.heap.size := Nat.le_trans (by have := hgrow1.size; simp at this; omega) hb2.size) | (gi_at_builtin; go_loud (refine wpListIn_append_own _ rfl _ _ 24 rfl W2.heap.size 9 i0 (.string ⟨#[]⟩) 1 16 Try.underlying24 hi0 hz0 hz1 hzb rfl (by decide) _ _ _ rfl (hrow2.alloc _) ⟨w2.heap.size, 0, none⟩ 1 1 [.string x.1] rfl rfl (cell_one_new _ _ _) (by simp [Value.oneCell']) (by unfold maxLen; omega) (by omega) (by have := HOW.out.2.2.2; simp; omega) ?_); intro v' w4 hown4 hgrow4 _; obtain ⟨g', cap', rfl⟩ := ownsRow_succ hown4; have hv4 := (hv2.alloc (.cells #[.string x.1] 9)).kept hgrow4 (fun e => by have := own_ge hrow2 e.symm; omega); have hc4 := hv4.cell; have hf4 := hv4.frozen))
      obtain ⟨hD1', hD2, hbm⟩ := HMP.out
      obtain ⟨hv, hrow, hB, hz⟩ := HOW.out
      have hsz1 : W.heap.size + 1 ≤ w1.heap.size := by have := hgrow1.size; simpa using this
      have hsz4 : w2.heap.size + 1 ≤ w4.heap.size := by have := hgrow4.size; simpa using this
      have hs12 := hb2.size
      have hk4 : ∀ k, k < w1.heap.size → k < W2.heap.size → w4.heap[k]? = w1.heap[k]? := fun k h1 h2 =>
        (hgrow4.block k (by simp; omega) (fun e => by have := own_ge hrow2 e.symm; omega)).trans ((Below.heap_alloc _ _ _ (by omega)).trans (hb2.block k h1))
      have hk1 : ∀ k, k < W.heap.size → k ≠ w.heap.size + 1 → w1.heap[k]? = W.heap[k]? := fun k h1 h2 => (hgrow1.block k (by simp; omega) (fun e => h2 (by cases e; rfl))).trans (Below.heap_alloc _ _ _ h1)
      have hse1 := SeenAt.put hD1' hD2 hown1
      obtain ⟨v5, hv5e⟩ : ∃ v5, v5 = Value.slice (some { block := g', off := 0 }) (L.length + 1) cap' := ⟨_, rfl⟩
      rw [← hv5e] at hown4 ⊢
      have hk5 : ∀ k, k < w1.heap.size → k < W2.heap.size → k ≠ w.heap.size → (w4.setCell ⟨w.heap.size, 0, none⟩ v5).heap[k]? = w1.heap[k]? := fun k h1 h2 h3 => (Below.heap_setCell _ _ _ k (fun e => h3 e)).trans (hk4 k h1 h2)
      have hsS : (w4.setCell ⟨w.heap.size, 0, none⟩ v5).heap.size = w4.heap.size := by show (w4.heap.modify _ _).size = _; rw [Array.size_modify]
      refine ⟨⟨by omega, fun k o hk ho hc => ?_⟩, ?_, ⟨v5, hv4.set v5, ?_⟩, ?_, ?_, ?_, by omega⟩
      · have hkl := block_lt ho
        have e1 : w2.heap[k]? = some o := (hb2.block k (by omega)).trans ((hk1 k hkl (by omega)).trans ho)
        refine (Below.heap_setCell _ _ _ k (fun e => by have : k = w.heap.size := e; omega)).trans ((hgrow4.block k (by simp; omega) (fun e => ?_)).trans ((Below.heap_alloc _ _ _ (by omega)).trans e1))
        have := own_cells hrow2 e.symm e1
        rw [hc] at this; cases this
      · exact (hk5 _ (by omega) (by omega) (by omega)).trans (hk1 _ (by omega) (by omega))
      · rw [HLX.out, List.length_append, List.length_singleton]
        have := own_kept hown4 (grownBy_setCell' w4 w.heap.size v5) (fun r e => by cases e; omega)
        unfold strs at this ⊢
        rw [List.map_append]
        exact this
      · rw [HLX.out]
        exact hse1.block (hk5 _ (by omega) (by omega) (by omega))
      · exact (hk5 _ (by have := hbm.lt; omega) (by omega) (by omega)).trans ((hk1 _ hbm.lt (by omega)).trans hbm)
      · have hB1 : Below w.heap.size w w1 := (hB.alloc hB.size (.cells #[] 51)).grown hgrow1 (by simp; omega) (fun k e => by cases e; omega)
        have hB4 : Below w.heap.size w w4 := ((below_step hB1 hb2 (by omega)).alloc (by omega) (.cells #[.string x.1] 9)).grown hgrow4 (by simp; omega) (fun k e => by have := own_ge hrow2 e; omega)
        exact hB4.setCell (p := ⟨w.heap.size, 0, none⟩) (Nat.le_refl _) _
  case done =>
    rintro D ys W hD hS ⟨⟨v, hv, hrow⟩, hse, hbm, hB, hz⟩ hK
    have hc := hv.cell
    gi_wp2
    refine ⟨by simp, .inl ⟨_, _, rfl, run_takeDeferred hK, ?_⟩⟩
    refine ⟨_, results_tmp rfl _ _ _, ?_⟩
    refine ⟨hB.trans (belowK_b (w := w) (Nat.le_refl _) W D _ _ (by omega) hK rfl rfl), v, rfl, ?_⟩
    have := ownsRow_putObj hrow (.deferred none) hK rfl
    rw [hS] at this
    exact own_base this (by omega)
  case stop =>
    rintro D c pre W _ _ h _
    exact h.elim
end Go.Proofs.Ytadlimfpcfdgcaa
