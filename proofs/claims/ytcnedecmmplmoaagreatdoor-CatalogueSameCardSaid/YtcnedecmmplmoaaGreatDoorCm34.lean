/- catalogue: Find; the kit's In. -/
import Derived.Test.YtcnedecmmplmoaaGreatDoorCm33
set_option linter.unusedVariables false
set_option linter.unusedSimpArgs false
namespace Go.Proofs.YtcnedecmmplmoaaGreatDoor
open Go Go.RowKit Go.BigFrame
open Ver (cmpV BL parts brk)

theorem in_any (o : Nat) (t : ByteArray) (w : World) : Calls Tryz.prog 29 #[.int .u8 (o : Int), .string t] w fun e w' => ∃ g, e = .returned (.slice (some ⟨g, 0, none⟩) 1 1) ∧ FrAt w.heap.size w' (.slice (some ⟨g, 0, none⟩) 1 1) [[(o, t)]] ∧ Below w.heap.size w w' := by
  obtain ⟨W, hW, h1, h2, h3⟩ := one_range w o t
  have HW := Lib.hid hW
  have HH := Lib.hid (And.intro h1 h2)
  clear hW h1 h2 h3
  go_enter Tryz.func29, Tryz.ntmps29
  go_wp2
  go_ret
  exact ⟨w.heap.size + 1, by simp, by have h := HH.out.1; rw [HW.out] at h; simpa using h, by have h := HH.out.2; rw [HW.out] at h; exact h⟩
/-- The k-th of a row of variants. -/
theorem VasAt.get {w : World} {A : Option Addr} {n cap : Nat} {l : List Va} (h : VasAt w (.slice A n cap) l) (k : Nat) (hk : k < l.length) :
    ∃ ad An cn Ac cc, A = some ad ∧ ad.block < w.heap.size ∧ w.cell? ⟨(ad.add (k * 5)).block, (ad.add (k * 5)).off, (ad.add (k * 5)).3⟩ = some (.string (l.getD k default).name) ∧ w.cell? ⟨(ad.add (k * 5)).block, (ad.add (k * 5)).off + 1, none⟩ = some (.string (l.getD k default).ver) ∧
      w.cell? ⟨(ad.add (k * 5)).block, (ad.add (k * 5)).off + 2, none⟩ = some (.slice An (l.getD k default).needs.length cn) ∧ w.cell? ⟨(ad.add (k * 5)).block, (ad.add (k * 5)).off + 3, none⟩ = some (.slice Ac (l.getD k default).confs.length cc) ∧ w.cell? ⟨(ad.add (k * 5)).block, (ad.add (k * 5)).off + 4, none⟩ = some (.string (l.getD k default).recipe) ∧
      NdsAt w (.slice An (l.getD k default).needs.length cn) (l.getD k default).needs ∧ NdsAt w (.slice Ac (l.getD k default).confs.length cc) (l.getD k default).confs := by
  obtain ⟨ad, us, e, hl, hb, _, hc, un, uc, rfl, h1, h2⟩ := OutM.get h k hk
  obtain ⟨An, cn, rfl, _⟩ := OutM.form h1
  obtain ⟨Ac, cc, rfl, _⟩ := OutM.form h2
  have hk : ∀ j u, (#[Value.string (l.getD k default).name, .string (l.getD k default).ver, .slice An (l.getD k default).needs.length cn, .slice Ac (l.getD k default).confs.length cc, .string (l.getD k default).recipe]).toList[j]? = some u → w.cell? ((ad.add (k * 5)).add j) = some u := fun j u hu => by rw [add_add]; exact hc j u hu
  refine ⟨ad, An, cn, Ac, cc, e, hb, ?_, hk 1 _ rfl, hk 2 _ rfl, hk 3 _ rfl, hk 4 _ rfl, h1, h2⟩
  have := hc 0 _ rfl; simpa [add_add] using this
theorem places_next (l : List Va) (n : Nde) (k : Nat) : placesL l n (k + 1) = if fitsB n (l.getD k default) = true then placesL l n k ++ [(k : Int)] else placesL l n k := by
  unfold placesL
  rw [List.range_succ, List.filter_append]
  by_cases h : fitsB n (l.getD k default) = true
  · rw [if_pos h, List.filter_cons_of_pos (by simpa using h)]; simp
  · rw [if_neg h, List.filter_cons_of_neg (by simpa using h)]; simp
theorem places_len (l : List Va) (n : Nde) (k : Nat) : (placesL l n k).length ≤ k := by
  unfold placesL
  rw [List.length_map]
  exact Nat.le_trans (List.length_filter_le _ _) (by simp)
theorem ints_snoc (xs : List Int) (z : Int) : ints (xs ++ [z]) = ints xs ++ [.int .i64 z] := by simp [ints]
def FindPost (l : List Va) (n : Nde) (w : World) (e : Ending) (w' : World) : Prop := ∃ A c, e = .returned (.slice A (findL l n).length c) ∧ RdS w' AllB (.slice A (findL l n).length c) (findL l n).length (ints (findL l n)) ∧ Below w.heap.size w w'
set_option maxRecDepth 100000 in
set_option maxHeartbeats 4000000 in
theorem find_any (l : List Va) (v : Value) (n : Nde) (u : Value) (w : World) (hl : VasAt w v l) (hu : RngAt w u n.2) (hsz : Short n.2) (hn : n.1.size ≤ maxLen) (hv : ∀ x ∈ l, x.ver.size ≤ 1000000) (hlen : l.length ≤ 1000000) :
    Calls Tryz.prog 22 #[v, .agg #[.string n.1, u]] w (FindPost l n w) := by
  obtain ⟨A, c, rfl, hlc, hcm⟩ := OutM.form hl
  obtain ⟨A2, c2, rfl, hlc2, hcm2⟩ := OutS.form hu
  obtain ⟨nm, r⟩ := n
  dsimp only at *
  unfold maxLen at hcm
  obtain ⟨W0, hW0, hg0, hb0, hz0⟩ : ∃ W0, W0 = w.alloc (.cells #[.string nm, .slice A2 r.length c2] 40) ∧ W0.heap[w.heap.size]? = some (.cells #[.string nm, .slice A2 r.length c2] 40 (0, 0)) ∧ Below w.heap.size w W0 ∧ W0.heap.size = w.heap.size + 1 := ⟨_, rfl, heap_alloc_new _ _, (Below.refl _ _).alloc (Nat.le_refl _) _, by simp⟩
  have h0 : W0.cell? ⟨w.heap.size, 0, none⟩ = some (.string nm) := by rw [cell_of_row _ _ _ _ _ _ hg0]; rfl
  have h1 : W0.cell? ⟨w.heap.size, 1, none⟩ = some (.slice A2 r.length c2) := by rw [cell_of_row _ _ _ _ _ _ hg0]; rfl
  have HMB := Lib.hid (fun (W : World) (hb : Below W0.heap.size W0 W) => needMayBe_any (nm, r) _ W ((hu.below hb0).below hb) hsz hn)
  have HL := Lib.hid (VasAt.below hl hb0)
  have HU := Lib.hid (RngAt.below hu hb0)
  have HG := Lib.hid hg0
  have HB := Lib.hid hb0
  have HZ := Lib.hid hz0
  have HV := Lib.hid hv
  have HSZ := Lib.hid hsz
  clear hl hu hsz hn hg0 hb0 hz0 hv
  cases hm : needB (nm, r) with
  | false =>
    have HF := Lib.hid (show findL l (nm, r) = [] by unfold findL; rw [if_neg (by rw [hm]; decide)])
    rw [hm] at HMB
    clear hm
    go_enter Tryz.func22, Tryz.ntmps22
    go_upto_region 1 with (fail)
    rw [← hW0]
    clear hW0
    go_wp2_with (go_at_call 48; refine (HMB.out _ (Below.refl _ _)).mono ?_; rintro e W1 ⟨rfl, hb1⟩)
    go_ret
    refine ⟨none, 0, by rw [HF.out]; rfl, by rw [HF.out]; exact RdS.nil _ _, below_step HB.out hb1 HB.out.size⟩
  | true =>
    have HF := Lib.hid (show findL l (nm, r) = placesL l (nm, r) l.length by unfold findL; rw [if_pos hm])
    rw [hm] at HMB
    clear hm
    go_enter Tryz.func22, Tryz.ntmps22
    go_upto_region 1 with (fail)
    rw [← hW0]
    clear hW0
    go_wp2_with (go_at_call 48; refine (HMB.out _ (Below.refl _ _)).mono ?_; rintro e W1 ⟨rfl, hb1⟩)
    have HB1 := Lib.hid hb1
    obtain ⟨i0, hi, hz0, hz1, hz2⟩ := info_parts infoInt
    have HI := Lib.hid (And.intro hi (And.intro hz0 (And.intro hz1 hz2)))
    clear hb1 hi hz0 hz1 hz2
    go_loopw [5, 12] (fun pv i wr => ∃ (k : Nat) (xs : List Int), k ≤ l.length ∧ i = .int .i64 (k : Int) ∧ xs.length ≤ k ∧ Hid (xs = placesL l (nm, r) k) ∧ Hid (wr.ownsRow W1.heap.size 3 1 pv xs.length (ints xs)) ∧ Hid (Below W1.heap.size W1 wr)) (fun _ i _ => l.length - (intOf i).toNat)
    case atStart => exact ⟨0, [], by omega, rfl, Nat.le_refl _, Lib.hid rfl, Lib.hid (World.ownsRow_nil _ _ _ _), Lib.hid (Below.refl _ _)⟩
    case round =>
      obtain ⟨k, xs, hk, rfl, hxk, HX, HOWN, HBL⟩ := hrel
      obtain ⟨A1, cap1, rfl⟩ := own_form HOWN.out
      by_cases hlt : k < l.length
      · have hltI : (k : Int) < (l.length : Int) := by omega
        have hk0 : (0 : Int) ≤ (k : Int) := by omega
        have hb01 : Below W0.heap.size W0 wr := below_step HB1.out HBL.out HB1.out.size
        obtain ⟨ad, An, cn, Ac, cc, rfl, hadb, g0, g1, _, _, _, _, _⟩ := VasAt.get (VasAt.below HL.out hb01) k hlt
        obtain ⟨x, hx⟩ : ∃ x, x = l.getD k default := ⟨_, rfl⟩
        rw [← hx] at g0 g1
        replace hadb := block_lt_of_cell g0
        have HXK := Lib.hid (show l[k]? = some x by rw [hx]; exact getD_get l k _ hlt)
        have hvz : x.ver.size ≤ 1000000 := HV.out x (List.mem_of_getElem? HXK.out)
        have hgw := (hb01.block _ (block_lt HG.out)).trans HG.out
        obtain ⟨hx0, hx1, _, _⟩ := cell_two hgw
        have hlv := block_lt hgw
        have HNX := Lib.hid (show placesL l (nm, r) (k + 1) = if (decide (x.name = nm) && allowR r x.ver) = true then xs ++ [(k : Int)] else xs by rw [places_next, HX.out, hx]; rfl)
        have HRA := Lib.hid (RngAt.below HU.out hb01)
        have HB0R := Lib.hid hb01
        clear hx hgw hb01
        obtain ⟨xn, xv, xne, xco, xre⟩ := x
        dsimp only at *
        by_cases hnn : xn = nm
        · have hsb : (xn.toList == nm.toList) = true := by rw [hnn]; simp
          obtain ⟨ok, hok⟩ : ∃ ok, ok = allowR r xv := ⟨_, rfl⟩
          have HAL := Lib.hid (fun w' (hk : KeepW wr wr.heap.size w') => hk.calls (allow_is ok r _ xv w' (RngAt.below HRA.out hk.1) HSZ.out hvz hok.symm))
          have HKK := Lib.hid (fun w' (h : KeepW wr wr.heap.size w') => (show (w'.cell? ⟨(ad.add (k * 5)).block, (ad.add (k * 5)).off, (ad.add (k * 5)).3⟩ = some (.string xn) ∧ w'.cell? ⟨(ad.add (k * 5)).block, (ad.add (k * 5)).off + 1, none⟩ = some (.string xv) ∧ w'.cell? ⟨w.heap.size, 0, none⟩ = some (.string nm) ∧ w'.cell? ⟨w.heap.size, 1, none⟩ = some (.slice A2 r.length c2)) ∧ KeepW wr wr.heap.size w' from
            ⟨⟨(h.1.cell (p := ⟨(ad.add (k * 5)).block, (ad.add (k * 5)).off, (ad.add (k * 5)).3⟩) hadb).trans g0, (h.1.cell (p := ⟨(ad.add (k * 5)).block, (ad.add (k * 5)).off + 1, none⟩) hadb).trans g1, (h.1.cell (p := ⟨w.heap.size, 0, none⟩) hlv).trans hx0, (h.1.cell (p := ⟨w.heap.size, 1, none⟩) hlv).trans hx1⟩, h⟩))
          have hk0' : KeepW wr wr.heap.size wr := KeepW.start (Nat.le_refl _)
          have HN := Lib.hid (show placesL l (nm, r) (k + 1) = if ok = true then xs ++ [(k : Int)] else xs by rw [HNX.out, decide_eq_true hnn, Bool.true_and, hok])
          clear hok hnn
          go_wp2
          go_region_held3 (fun w' => (w'.cell? ⟨(ad.add (k * 5)).block, (ad.add (k * 5)).off, (ad.add (k * 5)).3⟩ = some (.string xn) ∧ w'.cell? ⟨(ad.add (k * 5)).block, (ad.add (k * 5)).off + 1, none⟩ = some (.string xv) ∧ w'.cell? ⟨w.heap.size, 0, none⟩ = some (.string nm) ∧ w'.cell? ⟨w.heap.size, 1, none⟩ = some (.slice A2 r.length c2)) ∧ KeepW wr wr.heap.size w') (first | exact HKK.out _ (by assumption) | exact HKK.out _ (KeepW.drew (by assumption)) | go_keep) (first | (go_at_call 49; refine (HAL.out _ (by first | assumption | exact KeepW.drew (by assumption))).mono ?_; rintro e w4 ⟨rfl, hk4⟩))
          all_goals
            have HB4 := Lib.hid (below_step HBL.out hk4.1 HBL.out.size)
            have HOW4 := Lib.hid (own_below HOWN.out hk4.1 (Nat.le_refl _))
            have HZ4 := Lib.hid hk4.2
            cases ok with
            | false =>
              go_wp2
              go_roundw
              case rel => exact ⟨k + 1, xs, by omega, by go_num, by omega, Lib.hid (by rw [HN.out, if_neg (by decide)]), HOW4, HB4⟩
              case measure => simp [intOf]; omega
            | true =>
              go_wp2_with (at_builtin; refine wpList_app rfl _ _ 43 rfl W1.heap.size 3 i0 (.int .i64 0) 8 Tryz.underlying43 HI.out.1 HI.out.2.1 HI.out.2.2.1 HI.out.2.2.2 rfl _ xs.length _ rfl (HOW4.out.alloc _) ⟨w4.heap.size, 0, none⟩ 1 1 [.int .i64 (k : Int)] rfl rfl ?c1 ?c2 ?c3 ?c4 ?c5 ?_)
              case c2 => simp [Value.oneCell']
              case c3 => unfold maxLen; omega
              case c4 => omega
              case c5 => have := HBL.out.size; have := HZ4.out; simp; omega
              intro v' w6 hown6 hgrow6 hmov6
              obtain ⟨A6, cap6, rfl⟩ := own_form hown6
              have HR5 := Lib.hid ((HB4.out.alloc (by have := HBL.out.size; have := HZ4.out; omega) (.cells #[.int .i64 (k : Int)] 3)).grown hgrow6 (by have := HBL.out.size; have := HZ4.out; simp; omega) fun g hg => (HOW4.out.lt g hg).1)
              have HR1 := Lib.hid (show w6.ownsRow W1.heap.size 3 1 (.slice A6 (xs.length + 1) cap6) (xs ++ [(k : Int)]).length (ints (xs ++ [(k : Int)])) by rw [List.length_append, ints_snoc]; exact hown6)
              clear hown6 hgrow6 hmov6
              go_wp2
              go_roundw
              case rel => exact ⟨k + 1, xs ++ [(k : Int)], by omega, by go_num, by simp; omega, Lib.hid (by rw [HN.out]; simp), HR1, HR5⟩
              case measure => simp [intOf]; omega
        · have hsb : (xn.toList == nm.toList) = false := by rw [str_ne_iff, decide_eq_false hnn]
          have HN := Lib.hid (show placesL l (nm, r) (k + 1) = xs by rw [HNX.out, decide_eq_false hnn, Bool.false_and, if_neg (by decide)])
          clear hnn
          go_wp2
          go_quiet (fail)
          go_wp2
          go_roundw
          case rel => exact ⟨k + 1, xs, by omega, by go_num, by omega, Lib.hid HN.out.symm, Lib.hid (own_below HOWN.out (below_drewN (Below.refl wr.heap.size wr) _) (Nat.le_refl _)), Lib.hid (below_drewN HBL.out _)⟩
          case measure => simp [intOf]; omega
      · have hke : k = l.length := by omega
        subst hke
        have hltI : ¬ (l.length : Int) < (l.length : Int) := by omega
        have HE := Lib.hid (show xs = findL l (nm, r) by rw [HF.out, HX.out])
        go_wp2
        go_ret
        refine ⟨A1, cap1, by rw [← HE.out]; rfl, by rw [← HE.out]; exact (RdS.own HOWN.out).all, below_step (below_step HB.out HB1.out HB.out.size) HBL.out (Nat.le_trans HB.out.size HB1.out.size)⟩
end Go.Proofs.YtcnedecmmplmoaaGreatDoor
