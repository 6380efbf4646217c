/- drv's laws: DrvHolds, names in a circle. -/
import Derived.Test.YtbniilajffjfcaaGreatDoorDrvKg
set_option linter.unusedVariables false
set_option linter.unusedSimpArgs false
namespace Go.Proofs.YtbniilajffjfcaaGreatDoor
open Go.RowKit Go.BigFrame Go.Maps
open Drv (posO edges edgeAt dupB)

set_option maxRecDepth 100000 in
set_option maxHeartbeats 8000000 in
theorem holds_circle (a : Value) (names : List ByteArray) (b : Value) (needs : List (List ByteArray)) (c : Value) (roots : List ByteArray) (more : ByteArray) (w : World) (ht : Sha.Tabs w) (ha : TRow w AllB a names) (hs : Small names) (hb : TextsAt w b needs) (hss : ∀ r ∈ needs, Small r) (hc : TRow w AllB c roots) (hcs : Small roots) (hm : more.size ≤ 200) (hg : graphB names needs = true) (hg2 : shortB roots 30 = true) (hdn : dupB names = false) (hs0 : sortC names needs ≠ 0) :
    Calls Tryz.prog 12 #[a, b, c, .string more] w fun e w' => e = .returned (.bool true) ∧ Below w.heap.size w w' := by
  have HG := Lib.hid (graph_any a b names needs w ha hb hs hss)
  unfold YesAt at HG
  have HSH := Lib.hid (fun (w1 : World) (h : Below w.heap.size w w1) => short_any c roots 30 w1 (RdS.below hc h) hcs (by omega))
  unfold YesAt at HSH
  have HA := Lib.hid (fun (w1 : World) (h : Below w.heap.size w w1) => show TRow w1 AllB a names from RdS.below ha h)
  have HB := Lib.hid (fun (w1 : World) (h : Below w.heap.size w w1) => show TextsAt w1 b needs from hb.below h)
  have HC := Lib.hid (fun (w1 : World) (h : Below w.heap.size w w1) => show TRow w1 AllB c roots from RdS.below hc h)
  have HT := Lib.hid (fun (w1 : World) (h : Below w.heap.size w w1) => works_any w1 (ht.below h))
  have HSN := Lib.hid hs
  have HF := Lib.hid (graphB_few hg)
  rw [hg] at HG
  have HRS := Lib.hid (shortB_small hg2)
  rw [hg2] at HSH
  have HDN := Lib.hid hdn
  have HMO := Lib.hid hm
  have hcc : closC names = 0 := by unfold closC; rw [hdn]; rfl
  have HCN := Lib.hid hcc
  obtain ⟨A, ca, rfl, _, _⟩ := RdS.form ha
  obtain ⟨B, cb, rfl, _, _⟩ := OutS.form hb
  obtain ⟨C, cc, rfl, _, _⟩ := RdS.form hc
  have hmi : ¬ (200 : Int) < (more.size : Int) := by omega
  have hr30 := HRS.out.1
  clear ha hb ht hs hss hc hcs hm hg hg2 hdn
  go_enter Tryz.func12, Tryz.ntmps12
  go_wp2_with fail
  refine HG.out.mono ?_
  rintro e w0 ⟨rfl, nq, hw⟩
  have HB0 := Lib.hid (show Below w.heap.size w w0 by rw [hw]; exact below_drewN (Below.refl _ _) _)
  clear hw
  go_wp2_with fail
  refine (HSH.out w0 HB0.out).mono ?_
  rintro e w1 ⟨rfl, nq, hw⟩
  have HB1 := Lib.hid (show Below w.heap.size w w1 by rw [hw]; exact below_drewN HB0.out _)
  clear hw
  go_wp2_with fail
  refine (sort_is _ _ names needs w1 (HA.out w1 HB1.out) (HB.out w1 HB1.out) HF.out.1 _ _ rfl rfl).mono ?_
  rintro e w2 ⟨A2, c2, rfl, hb2, hi2⟩
  have HB2 := Lib.hid (step HB1.out hb2)
  have HI2 := Lib.hid hi2
  clear hb2 hi2
  go_wp2_with fail
  refine (clos_is _ _ _ names needs roots w2 (HA.out w2 HB2.out) (HB.out w2 HB2.out) (HC.out w2 HB2.out) HF.out.1 (by omega) HRS.out.2.2 _ _ rfl rfl).mono ?_
  rintro e w3 ⟨A3, c3, rfl, hb3, hi3⟩
  have HB3 := Lib.hid (step HB2.out hb3)
  have HI3 := Lib.hid hi3
  have HL3 := Lib.hid (RdS.below HI2.out hb3)
  clear hb3 hi3 HI2
  rw [hcc]
  have hs0i : ¬ sortC names needs = 0 := hs0
  generalize sortC names needs = sc at *
  have hn30 := HF.out.2.1
  have HCL := Lib.hid (fun (i e : Nat) (h1 : i ∈ closL names needs roots) (h2 : e ∈ edgeAt names needs i) => clos_closed HDN.out h1 h2)
  have HCLT := Lib.hid (fun (i : Nat) (h1 : i ∈ closL names needs roots) => clos_lt HDN.out i h1)
  have HCLR := Lib.hid (fun (s : ByteArray) (h1 : s ∈ roots) (p : Nat) (hp : posO names s = some p) => clos_roots (names := names) (needs := needs) HDN.out h1 hp)
  have HCLW := Lib.hid (fun (x : Nat) (h1 : x ∈ closL names needs roots) => clos_wide HDN.out more h1)
  have HCLO := Lib.hid (clos_own (names := names) (needs := needs) (roots := roots) HDN.out)
  have HCLN := Lib.hid (clos_len (names := names) (needs := needs) (roots := roots) HDN.out)
  generalize sortL names needs = L at *
  generalize closL names needs roots = K at *
  clear hs0 hcc
  go_upto_region 9 with (fail)
  have HA3 := Lib.hid (HA.out w3 HB3.out)
  have HN3 := Lib.hid (HB.out w3 HB3.out)
  have HPC := Lib.hid (fun (x : Nat) (hx : x ≤ 1000000) => placeL_any _ K x w3 HI3.out hx)
  have HPL := Lib.hid (fun (x : Nat) (hx : x ≤ 1000000) => placeL_any _ L x w3 (by have h := HL3.out; exact h) hx)
  go_wp2
  go_loopw [13] (fun iv wr => ∃ i : Nat, i ≤ names.length ∧ iv = .int .i64 (i : Int) ∧ wr = w3) (fun iv _ => names.length - (intOf iv).toNat)
  case atStart => exact ⟨0, by omega, rfl, rfl⟩
  case round =>
    obtain ⟨i, hi, rfl, hwr⟩ := hrel
    obtain rfl := hwr.symm
    by_cases hlt : i < names.length
    · have hii : (i : Int) < (names.length : Int) := by omega
      go_upto_region 13 with (fail)
      go_loopw [14] (fun kv wr => ∃ k : Nat, k ≤ 1000 ∧ kv = .int .i64 (k : Int) ∧ wr = w3) (fun kv _ => 1000 - (intOf kv).toNat)
      case atStart => exact ⟨0, by omega, rfl, rfl⟩
      case round =>
        obtain ⟨k, hk, rfl, hwr⟩ := hrel
        obtain rfl := hwr.symm
        by_cases hin : i < needs.length
        · have hini : (i : Int) < (needs.length : Int) := by omega
          obtain ⟨adb, u, rfl, hcu, hu⟩ := OutS.get HN3.out i hin
          rw [show needs.getD i default = needs.getD i [] from rfl] at hu
          have hrl := HF.out.2.2.2 _ (getD_row hin)
          have HEA := Lib.hid (show edgeAt names needs i = edges names (needs.getD i []) from rfl)
          generalize needs.getD i [] = row at *
          obtain ⟨R, cr, rfl, _, _⟩ := RdS.form hu
          by_cases hkr : k < row.length
          · have hkri : (k : Int) < (row.length : Int) := by omega
            obtain ⟨ad, rfl, hcx⟩ := TRow.get hu k hkr
            have HSM := Lib.hid (getD_mem hkr)
            generalize row.getD k ⟨#[]⟩ = s at *
            have HPA := Lib.hid (place_any _ names s _ HA3.out)
            cases hpos : posO names s with
            | none =>
              have hpl : placeI names s = -1 := by unfold placeI; rw [hpos]
              rw [hpl] at HPA
              clear hpos hpl
              go_wp2_with fail
              refine HPA.out.mono ?_
              rintro e w' ⟨rfl, hw⟩
              obtain rfl := hw.symm
              go_wp2
              go_roundw
              case rel => exact ⟨k + 1, by omega, by go_num, by trivial⟩
              case measure => simp [intOf]; omega
            | some q =>
              have hpl : placeI names s = (q : Int) := by unfold placeI; rw [hpos]
              rw [hpl] at HPA
              have hq0 : (0 : Int) ≤ (q : Int) := by omega
              have hqe : q ∈ edgeAt names needs i := by rw [HEA.out]; unfold Drv.edges; exact List.mem_filterMap.2 ⟨s, HSM.out, hpos⟩
              have hqn : q < names.length := Drv.posO_lt hpos
              have HQE := Lib.hid hqe
              skip
              have HP3 := Lib.hid (HPC.out i (by omega))
              have HP4 := Lib.hid (HPC.out q (by omega))
              clear hpos hpl hqe
              go_wp2_with fail
              refine HPA.out.mono ?_
              rintro e w' ⟨rfl, hw⟩
              obtain rfl := hw.symm
              skip
              by_cases hic : i ∈ K
              · have hqc := HCL.out i q hic HQE.out
                have h3 : 0 ≤ plN K i := Int.not_lt.1 (by rw [plN_neg]; exact fun h => h hic)
                have h4 : ¬ plN K q < 0 := by rw [plN_neg]; exact fun h => h hqc
                clear hic hqc
                generalize plN K i = p3 at *
                generalize plN K q = p4 at *
                skip
                go_wp2_with fail
                refine HP3.out.mono ?_
                rintro e w' ⟨rfl, hw⟩
                obtain rfl := hw.symm
                go_wp2_with fail
                refine HP4.out.mono ?_
                rintro e w' ⟨rfl, hw⟩
                obtain rfl := hw.symm
                go_wp2
                go_roundw
                case rel => exact ⟨k + 1, by omega, by go_num, by trivial⟩
                case measure => simp [intOf]; omega
              · have h3 : ¬ 0 ≤ plN K i := by have := (plN_neg (l := K) (x := i)).2 hic; omega
                clear hic
                generalize plN K i = p3 at *
                skip
                go_wp2_with fail
                refine HP3.out.mono ?_
                rintro e w' ⟨rfl, hw⟩
                obtain rfl := hw.symm
                go_wp2
                go_roundw
                case rel => exact ⟨k + 1, by omega, by go_num, by trivial⟩
                case measure => simp [intOf]; omega
          · have hkri : ¬ (k : Int) < (row.length : Int) := by omega
            skip
            go_wp2
            go_roundw
            case rel => exact ⟨i + 1, by omega, by go_num, by trivial⟩
            case measure => simp [intOf]; omega
        · have hini : ¬ (i : Int) < (needs.length : Int) := by omega
          skip
          go_wp2
          go_roundw
          case rel => exact ⟨i + 1, by omega, by go_num, by trivial⟩
          case measure => simp [intOf]; omega
    · have hii : ¬ (i : Int) < (names.length : Int) := by omega
      have hkn := HCLN.out
      go_wp2
      go_loopw [16, 17] (fun ov iv wr => ∃ (k : Nat) (A' : Option Addr) (c' : Nat), k ≤ K.length ∧ iv = .int .i64 (k : Int) ∧ ov = .slice A' (ownT names K k).length c' ∧ Hid (wr.ownsRow w3.heap.size 9 1 (.slice A' (ownT names K k).length c') (ownT names K k).length (strs (ownT names K k))) ∧ Hid (Below w3.heap.size w3 wr)) (fun _ iv _ => K.length - (intOf iv).toNat)
      case atStart => exact ⟨0, none, 0, by omega, rfl, by rw [ownT_zero]; rfl, Lib.hid (by rw [ownT_zero]; exact World.ownsRow_nil _ _ _ _), Lib.hid (Below.refl _ _)⟩
      case round =>
        obtain ⟨k, A', c', hk, rfl, rfl, HO, HBW⟩ := hrel
        by_cases hkl : k < K.length
        · have hki : (k : Int) < (K.length : Int) := by omega
          obtain ⟨adk, rfl, hck⟩ := IRow.get (RdS.below HI3.out HBW.out) k (by rw [ofN_len]; exact hkl)
          rw [ofN_get K k hkl] at hck
          have hxl := HCLT.out (K.getD k 0) (by simp [List.getD, hkl])
          obtain ⟨adn, rfl, hcn⟩ := TRow.get (HA.out wr (step HB3.out HBW.out)) (K.getD k 0) hxl
          have HNX := Lib.hid (ownT_next (names := names) hkl)
          have hol := ownT_len (names := names) (l := K) (k := k)
          have hbs := HBW.out.size
          generalize K.getD k 0 = x at *
          generalize names.getD x ⟨#[]⟩ = s at *
          have hxi : (x : Int) < (names.length : Int) := by omega
          go_wp2_with (at_builtin; refine wpList_pushT rfl _ _ rfl w3.heap.size _ (ownT names K k) rfl (HO.out.alloc _) ⟨wr.heap.size, 0, none⟩ s rfl ?_ ?_ ?_ _ HNX.out ?_)
          · exact (cell_of_row _ _ _ _ _ _ (heap_alloc_new wr _)).trans rfl
          · omega
          · simp; omega
          · intro A4 c4 w4 hown4 hb4
            have HB4 := Lib.hid ((HBW.out.alloc hbs (.cells #[.string s] 9)).trans hb4)
            have HO4 := Lib.hid hown4
            clear hown4 hb4
            go_wp2
            go_roundw
            case rel => exact ⟨k + 1, A4, c4, by omega, by go_num, rfl, HO4, HB4⟩
            case measure => simp [intOf]; omega
        · have hki : ¬ (k : Int) < (K.length : Int) := by omega
          have HD := Lib.hid (show closL names needs (ownT names K k) = K by rw [ownT_all (by omega)]; exact HCLO.out)
          have HOS := Lib.hid (ownT_small HSN.out K k)
          have hol := ownT_len (names := names) (l := K) (k := k)
          generalize ownT names K k = own at *
          have HB5 := Lib.hid (step HB3.out HBW.out)
          go_wp2_with fail
          refine (clos_is _ _ _ names needs own wr (HA.out wr HB5.out) (HB.out wr HB5.out) (trow_own HO.out) HF.out.1 (by omega) HOS.out K 0 HD.out HCN.out).mono ?_
          rintro e w6 ⟨A6, c6, rfl, hb6, hi6⟩
          have HB6 := Lib.hid (step HB5.out hb6)
          have HI6 := Lib.hid hi6
          have HK6 := Lib.hid (show IRow w6 AllB (.slice A3 K.length c3) (ofN K) from RdS.below (RdS.below HI3.out HBW.out) hb6)
          clear hb6 hi6
          go_wp2_with (at_builtin; refine wpList_copyT rfl _ _ rfl roots rfl _ rfl (HC.out w6 HB6.out) ?_ ?_)
          · omega
          intro A7 c7 w7 hown7 hb7
          have HO7 := Lib.hid hown7
          have HB7 := Lib.hid hb7
          have hz7 := hb7.size
          clear hown7 hb7
          obtain ⟨wide, hwide⟩ : ∃ wide, wide = roots ++ [more] := ⟨_, rfl⟩
          have HWD := Lib.hid hwide
          clear hwide
          go_wp2_with (at_builtin; refine wpList_pushT rfl _ _ rfl w6.heap.size _ roots rfl (HO7.out.alloc _) ⟨w7.heap.size, 0, none⟩ more rfl ?_ ?_ ?_ _ HWD.out ?_)
          · exact (cell_of_row _ _ _ _ _ _ (heap_alloc_new w7 _)).trans rfl
          · omega
          · simp; omega
          intro A8 c8 w8 hown8 hb8
          have HB68 := Lib.hid ((HB7.out.alloc hz7 (.cells #[.string more] 9)).trans hb8)
          have HB8 := Lib.hid (step HB6.out HB68.out)
          have HO8 := Lib.hid (trow_own hown8)
          clear hown8 hb8 hz7
          go_wp2_with fail
          refine (clos_is _ _ _ names needs wide w8 (HA.out w8 HB8.out) (HB.out w8 HB8.out) HO8.out HF.out.1 (by rw [HWD.out]; simp; omega) (by rw [HWD.out]; exact small_more HRS.out.2.2 (by have := HMO.out; unfold maxLen; omega)) _ 0 rfl HCN.out).mono ?_
          rintro e w9 ⟨A9, c9, rfl, hb9, hi9⟩
          have HB9 := Lib.hid (step HB8.out hb9)
          have HK9 := Lib.hid (show IRow w9 AllB (.slice A3 K.length c3) (ofN K) from RdS.below (RdS.below HK6.out HB68.out) hb9)
          have HD9 := Lib.hid (show IRow w9 AllB (.slice A6 K.length c6) (ofN K) from RdS.below (RdS.below HI6.out HB68.out) hb9)
          have HW9 := Lib.hid hi9
          have HIN := Lib.hid (fun (x : Nat) (h : x ∈ K) => show x ∈ closL names needs wide by rw [HWD.out]; exact HCLW.out x h)
          clear hb9 hi9
          generalize closL names needs wide = V at *
          go_wp2
          go_loopw [23] (fun iv wr => ∃ k : Nat, k ≤ K.length ∧ iv = .int .i64 (k : Int) ∧ wr = w9) (fun iv _ => K.length - (intOf iv).toNat)
          case atStart => exact ⟨0, by omega, rfl, rfl⟩
          case round =>
            obtain ⟨k2, hk2, rfl, hwr⟩ := hrel
            obtain rfl := hwr.symm
            by_cases hkl2 : k2 < K.length
            · have hki2 : (k2 : Int) < (K.length : Int) := by omega
              obtain ⟨adk, rfl, hck⟩ := IRow.get HK9.out k2 (by rw [ofN_len]; exact hkl2)
              rw [ofN_get K k2 hkl2] at hck
              have hxl := HCLT.out (K.getD k2 0) (by simp [List.getD, hkl2])
              have HPW := Lib.hid (placeL_any _ V (K.getD k2 0) w9 HW9.out (by omega))
              have hpw : ¬ plN V (K.getD k2 0) < 0 := by rw [plN_neg]; exact fun h => h (HIN.out _ (by simp [List.getD, hkl2]))
              generalize K.getD k2 0 = x at *
              generalize plN V x = pw at *
              go_wp2_with fail
              refine HPW.out.mono ?_
              rintro e w' ⟨rfl, hw⟩
              obtain rfl := hw.symm
              go_wp2
              go_roundw
              case rel => exact ⟨k2 + 1, by omega, by go_num, by trivial⟩
              case measure => simp [intOf]; omega
            · have hki2 : ¬ (k2 : Int) < (K.length : Int) := by omega
              go_wp2
              go_loopw [24] (fun iv wr => ∃ k : Nat, k ≤ roots.length ∧ iv = .int .i64 (k : Int) ∧ wr = w9) (fun iv _ => roots.length - (intOf iv).toNat)
              case atStart => exact ⟨0, by omega, rfl, rfl⟩
              case round =>
                obtain ⟨j, hj, rfl, hwr⟩ := hrel
                obtain rfl := hwr.symm
                by_cases hjl : j < roots.length
                · have hji : (j : Int) < (roots.length : Int) := by omega
                  obtain ⟨adr, rfl, hcr⟩ := TRow.get (HC.out _ HB9.out) j hjl
                  have HSM := Lib.hid (getD_mem hjl)
                  generalize roots.getD j ⟨#[]⟩ = s at *
                  have HPA := Lib.hid (place_any _ names s _ (HA.out _ HB9.out))
                  cases hpos : posO names s with
                  | none =>
                    have hpl : placeI names s = -1 := by unfold placeI; rw [hpos]
                    rw [hpl] at HPA
                    clear hpos hpl
                    go_wp2_with fail
                    refine HPA.out.mono ?_
                    rintro e w' ⟨rfl, hw⟩
                    obtain rfl := hw.symm
                    go_wp2
                    go_roundw
                    case rel => exact ⟨j + 1, by omega, by go_num, by trivial⟩
                    case measure => simp [intOf]; omega
                  | some q =>
                    have hpl : placeI names s = (q : Int) := by unfold placeI; rw [hpos]
                    rw [hpl] at HPA
                    have hq0 : (0 : Int) ≤ (q : Int) := by omega
                    have hqn : q < names.length := Drv.posO_lt hpos
                    have HQK := Lib.hid (HCLR.out s HSM.out q hpos)
                    have HPK := Lib.hid (placeL_any _ K q _ HK9.out (by omega))
                    have h4 : ¬ plN K q < 0 := by rw [plN_neg]; exact fun h => h HQK.out
                    clear hpos hpl
                    generalize plN K q = p4 at *
                    go_wp2_with fail
                    refine HPA.out.mono ?_
                    rintro e w' ⟨rfl, hw⟩
                    obtain rfl := hw.symm
                    go_wp2_with fail
                    refine HPK.out.mono ?_
                    rintro e w' ⟨rfl, hw⟩
                    obtain rfl := hw.symm
                    go_wp2
                    go_roundw
                    case rel => exact ⟨j + 1, by omega, by go_num, by trivial⟩
                    case measure => simp [intOf]; omega
                · have hji : ¬ (j : Int) < (roots.length : Int) := by omega
                  have HSI := Lib.hid (same_is _ _ (ofN K) _ HK9.out HD9.out)
                  go_wp2_with fail
                  refine HSI.out.mono ?_
                  rintro e w10 ⟨rfl, hb10⟩
                  have HB10 := Lib.hid (step HB9.out hb10)
                  clear hb10
                  go_wp2_with fail
                  refine (HT.out w10 HB10.out).mono ?_
                  rintro e w11 ⟨rfl, hb11⟩
                  have HB11 := Lib.hid (step HB10.out hb11)
                  clear hb11
                  go_wp2
                  go_ret
                  exact ⟨rfl, HB11.out⟩
end Go.Proofs.YtbniilajffjfcaaGreatDoor
