/- The walk of the law RangesAllows. -/
import Derived.Test.YtjckcdemkpmheaaDoorRngAe
namespace Go.Proofs.YtjckcdemkpmheaaDoor
open Go.ChangeShapes Go.WideShapes Go.ChangeAt Go.RowKit Go.BigFrame

theorem trod_strs {H : Type} {enc : TypeId × Value → H} {P : Program} {w : World} {base : Nat} {sp : Nat → Bool} {held : Bool} {fuel : Nat} {T e : TypeId} {v : Value} {x : DataW H × List MemPlace}
    (hT : P.underlying T = some (.slice e)) (he : P.underlying e = some .string) (h1 : P.cellsOf e = 1)
    (hf : DataW.trod enc P w base sp held fuel T [v] = some x) : ∃ ss : List ByteArray, Reads w w.heap.size v (strs ss) := by
  rcases Go.Deep.open_slice1 hT h1 hf with ⟨hcs, _⟩ | ⟨a, n, cap, m, k, V, D, Pl, hcs, _, hl, hm, hmm, _, hel⟩
  · have hv : v = .slice none 0 0 := by simpa using hcs
    subst hv
    exact ⟨[], Reads.nil _ _⟩
  · have hv : v = .slice (some a) n cap := by simpa using hcs
    subst hv
    have hnm : n ≤ m := by rw [hmm]; split <;> omega
    have hc : ∀ i, i < n → ∃ z : ByteArray, w.cell? (a.add i) = some (.string z) := by
      intro i hi
      obtain ⟨h2, h3⟩ := hel i (by omega)
      obtain ⟨b, eb, _⟩ := DataW.trod_string he h3
      exact ⟨b, by rw [h2]; simpa using eb⟩
    obtain ⟨f, hfz⟩ : ∃ f : Nat → ByteArray, ∀ i, i < n → w.cell? (a.add i) = some (.string (f i)) := ⟨fun i => if h : i < n then Classical.choose (hc i h) else ⟨#[]⟩, fun i hi => by
      have := Classical.choose_spec (hc i hi)
      simp only [hi, dif_pos]
      exact this⟩
    have hlen : (strs ((List.range n).map f)).length = n := by simp [strs]
    refine ⟨(List.range n).map f, some a, cap, by rw [hlen], by rw [hlen]; exact hl, hm, (fun h => by cases h), fun hn => ⟨a, rfl, ?_, fun j u hu => ?_⟩⟩
    · rw [hlen] at hn
      have := block_lt_of_cell (hfz 0 hn)
      rwa [add_block] at this
    · have hj : j < n := by have := (List.getElem?_eq_some_iff.1 hu).1; omega
      rw [hfz j hj, ← hu]
      simp [strs, hj]
set_option maxRecDepth 100000 in
theorem open_strs {H : Type} {enc : TypeId × Value → H} {w : World} {base : Nat} {sp : Nat → Bool} {held : Bool} {r : Reach} {b0 : Nat} {v : Value} {y : DataW H} {ps : List MemPlace} (_lt : ∀ x ∈ ps, x.block < w.heap.size)
    (hval : Value.okWide Tryd.prog w r b0 35 v) (hd : DataW.Trod enc Tryd.prog w base sp held 35 v y ps) :
    ∃ (a : Value) (ss : List ByteArray), Reads w w.heap.size a (strs ss) ∧ v = a := by
  obtain ⟨A, n, cap, rfl⟩ := okWide_slice Tryd.underlying35 hval
  obtain ⟨fuel, hf⟩ := hd
  obtain ⟨ss, hR⟩ := trod_strs (v := .slice A n cap) Tryd.underlying35 Tryd.underlying9 cellsStr hf
  exact ⟨_, ss, hR, rfl⟩
set_option maxRecDepth 100000 in
set_option maxHeartbeats 4000000 in
theorem rangesAllows_walk (a : Value) (r : List (List Bd)) (lv : Value) (l : List ByteArray) (w : World) (_ : True) (ha : RngAt w a r) (hl : Reads w w.heap.size lv (strs l)) : Calls Tryd.prog 5 #[a, lv] w fun e w' => e = .returned (.bool true) ∧ Below w.heap.size w w' := by
  have HSM := Lib.hid (smallR_any a r w ha)
  obtain ⟨LA, lc, rfl, hlc, hlm, _, _⟩ := id hl
  rw [strs_len] at hl hlc ⊢
  unfold maxLen at hlm
  go_enter Tryd.func5, Tryd.ntmps5
  go_wp2_with fail
  refine HSM.out.mono ?_
  rintro e w0 ⟨b, rfl, hsm, rfl⟩
  cases b
  · clear hsm
    go_wp2_with fail
    refine (works_any _).mono ?_
    rintro e w4 ⟨rfl, hb4⟩
    go_wp2
    go_ret
    exact ⟨rfl, hb4⟩
  · have HS := Lib.hid (hsm rfl)
    clear hsm HSM
    by_cases hl20 : l.length ≤ 20
    · have hl20I : ¬ (l.length : Int) > 20 := by omega
      have HA := Lib.hid ha
      have HL := Lib.hid hl
      have HSH := Lib.hid HS.out.short
      clear ha hl
      go_wp2_with fail
      go_loopw [5] (fun i wr => ∃ (k : Nat), k ≤ l.length ∧ i = .int .i64 (k : Int) ∧ Hid (∀ s ∈ l.take k, s.size ≤ 60) ∧ Hid (Below w0.heap.size w0 wr)) (fun i _ => l.length - (intOf i).toNat)
      case atStart => exact ⟨0, by omega, rfl, Lib.hid (by simp), Lib.hid (Below.refl _ _)⟩
      case round =>
        obtain ⟨k, hk, rfl, HZ, HB⟩ := hrel
        by_cases hlt : k < l.length
        · have hltI : (k : Int) < (l.length : Int) := by omega
          have hk0 : (0 : Int) ≤ (k : Int) := by omega
          have hrd := (HL.out.below HB.out).more HB.out.size
          obtain ⟨LA', lc', e', _, _, _, hcs⟩ := hrd
          rw [strs_len] at e' hcs
          cases e'
          obtain ⟨ad, rfl, _, hc⟩ := hcs (by omega)
          have hck := hc k _ (strs_get l k hlt)
          obtain ⟨s, hss⟩ : ∃ s, s = l.getD k ⟨#[]⟩ := ⟨_, rfl⟩
          rw [← hss] at hck
          have HSK := Lib.hid (show l[k]? = some s by rw [hss]; exact getD_get l k _ hlt)
          clear hc hcs hss
          by_cases hs60 : s.size ≤ 60
          · have hs60I : ¬ (s.size : Int) > 60 := by omega
            have hblk := block_lt_of_cell (show wr.cell? ⟨(ad.add k).block, (ad.add k).off, (ad.add k).3⟩ = _ from hck)
            have hr := HA.out.below HB.out
            have hkk : ∀ w', KeepW wr wr.heap.size w' → w'.cell? (ad.add k) = some (.string s) ∧ KeepW wr wr.heap.size w' := fun w' h => ⟨(h.1.cell hblk).trans hck, h⟩
            have h1 : ∀ w', KeepW wr wr.heap.size w' → Calls Tryd.prog 16 #[a, .string s] w' fun e w2 => e = .returned (.bool (allowR r s)) ∧ KeepW wr wr.heap.size w2 := fun w' h => h.calls (allow_any r a s w' (hr.below h.1) HSH.out (by omega))
            have h2 : ∀ w', KeepW wr wr.heap.size w' → Calls Tryd.prog 17 #[a, .string s] w' fun e w2 => e = .returned (.bool (allowR r s)) ∧ KeepW wr wr.heap.size w2 := fun w' h => h.calls (refAllow_any r a s w' (hr.below h.1) HSH.out (by omega))
            obtain ⟨ok, hok⟩ : ∃ ok, ok = allowR r s := ⟨_, rfl⟩
            rw [← hok] at h1 h2
            have HKK := Lib.hid hkk
            have H1 := Lib.hid h1
            have H2 := Lib.hid h2
            have hk0' : KeepW wr wr.heap.size wr := KeepW.start (Nat.le_refl _)
            have HN := Lib.hid (all_take (fun s : ByteArray => s.size ≤ 60) l k s HSK.out HZ.out hs60)
            have e1 : (ok != ok) = false := by cases ok <;> rfl
            clear hkk h1 h2 hblk hr hok
            go_upto_region 8 with (fail)
            go_region_held3 (fun w' => w'.cell? (ad.add k) = some (.string s) ∧ KeepW wr wr.heap.size w') (first | exact HKK.out _ (by assumption) | exact HKK.out _ (KeepW.drew (by assumption)) | go_keep) (first | (go_at_call 16; refine (H1.out _ (by first | assumption | exact KeepW.drew (by assumption))).mono ?_; rintro e w4 ⟨rfl, hk4⟩) | (go_at_call 17; refine (H2.out _ (by first | assumption | exact KeepW.drew (by assumption))).mono ?_; rintro e w5 ⟨rfl, hk5⟩))
            all_goals
              first
              | (have HB4 := Lib.hid (below_step HB.out (show KeepW wr wr.heap.size w5 from hk5).1 HB.out.size)
                 clear hk0'
                 go_wp2_with fail
                 go_roundw
                 case rel => exact ⟨k + 1, by omega, by go_num, HN, HB4⟩
                 case measure => simp [intOf]; omega)
              | (have HB4 := Lib.hid (below_step HB.out (show KeepW wr wr.heap.size w4 from hk4).1 HB.out.size)
                 clear hk0'
                 go_wp2_with fail
                 go_roundw
                 case rel => exact ⟨k + 1, by omega, by go_num, HN, HB4⟩
                 case measure => simp [intOf]; omega)
          · have hs60I : (s.size : Int) > 60 := by omega
            go_wp2_with fail
            refine (works_any _).mono ?_
            rintro e w4 ⟨rfl, hb4⟩
            go_wp2
            go_ret
            exact ⟨rfl, below_step HB.out hb4 HB.out.size⟩
        · have hltI : ¬ (k : Int) < (l.length : Int) := by omega
          have HZZ := Lib.hid (show ∀ s ∈ l, s.size ≤ 1000000 from fun s hs => by
            have := HZ.out s (by rw [show k = l.length by omega, List.take_length]; exact hs)
            omega)
          have H1 := Lib.hid (fun w h hl => best_any r a (.slice LA l.length lc) l w h hl HSH.out HZZ.out)
          have H2 := Lib.hid (fun w h hl => refBest_any r a (.slice LA l.length lc) l w h hl HSH.out HZZ.out)
          obtain ⟨z, hz⟩ : ∃ z, z = bestR r l := ⟨_, rfl⟩
          rw [← hz] at H1 H2
          have e1 : (z == z) = true := by simp
          clear hz
          go_wp2_with fail
          refine (H1.out _ (HA.out.below HB.out) ((HL.out.below HB.out).more HB.out.size)).mono ?_
          rintro e w1 ⟨rfl, hb1⟩
          have HB1 := Lib.hid (below_step HB.out hb1 HB.out.size)
          clear hb1
          go_wp2_with fail
          refine (H2.out _ (HA.out.below HB1.out) ((HL.out.below HB1.out).more HB1.out.size)).mono ?_
          rintro e w2 ⟨rfl, hb2⟩
          have HB2 := Lib.hid (below_step HB1.out hb2 HB1.out.size)
          clear hb2
          go_wp2_with fail
          refine (works_any _).mono ?_
          rintro e w4 ⟨rfl, hb4⟩
          go_wp2
          go_ret
          exact ⟨rfl, below_step HB2.out hb4 HB2.out.size⟩
    · have hl20I : (l.length : Int) > 20 := by omega
      go_wp2_with fail
      refine (works_any _).mono ?_
      rintro e w4 ⟨rfl, hb4⟩
      go_wp2
      go_ret
      exact ⟨rfl, hb4⟩
end Go.Proofs.YtjckcdemkpmheaaDoor
