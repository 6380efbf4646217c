/- The walk of the law RangesKnown. -/
import Derived.Test.YtjckcdemkpmheaaDoorRngAl
namespace Go.Proofs.YtjckcdemkpmheaaDoor
open Go.RowKit Go.BigFrame

theorem parse_law (s : ByteArray) (w : World) (hs : s.size ≤ 1000) : Calls Tryd.prog 3 #[.string s] w fun e w' => e = .returned (.bool true) ∧ Below w.heap.size w w' := rangesParse_walk s w trivial (by unfold maxLen; omega)
theorem print_law (a : Value) (r : List (List Bd)) (w : World) (ha : RngAt w a r) : Calls Tryd.prog 4 #[a] w fun e w' => e = .returned (.bool true) ∧ Below w.heap.size w w' := rangesPrint_walk a r w trivial ha
theorem allows_law (a lv : Value) (r : List (List Bd)) (l : List ByteArray) (w : World) (ha : RngAt w a r) (hl : Reads w w.heap.size lv (strs l)) : Calls Tryd.prog 5 #[a, lv] w fun e w' => e = .returned (.bool true) ∧ Below w.heap.size w w' := rangesAllows_walk a r lv l w trivial ha hl
theorem back_law (s : ByteArray) (a : Value) (r : List (List Bd)) (v : ByteArray) (w : World) (hs : s.size ≤ 1000) (ha : RngAt w a r) (hv : v.size ≤ 1000) : Calls Tryd.prog 6 #[.string s, a, .string v] w fun e w' => e = .returned (.bool true) ∧ Below w.heap.size w w' := rangesBack_walk s a r v w trivial (by unfold maxLen; omega) ha (by unfold maxLen; omega)
theorem apart_law (v x y : ByteArray) (k n : Nat) (w : World) (hv : v.size ≤ 1000) (hx : x.size ≤ 1000) (hy : y.size ≤ 1000) (hk : k < 17) (hn : n < 17) :
    Calls Tryd.prog 7 #[.string v, .string x, .string y, .int .u8 (k : Int), .int .u8 (n : Int)] w fun e w' => e = .returned (.bool true) ∧ Below w.heap.size w w' :=
  rangesApart_walk v x y k n w trivial (by unfold maxLen; omega) (by unfold maxLen; omega) (by unfold maxLen; omega) (u8_wf k hk) (u8_wf n hn)
theorem s1_size (T : ByteArray) (h : T.size ≤ 100) : (T ++ ⟨#[44, 62, 61, 49]⟩).size ≤ 1000 := by
  have h4 : (⟨#[44, 62, 61, 49]⟩ : ByteArray).size = 4 := rfl
  rw [ByteArray.size_append, h4]; omega
theorem s2_size (T : ByteArray) (h : T.size ≤ 100) : ((⟨#[61, 50, 124]⟩ : ByteArray) ++ T).size ≤ 1000 := by
  have h3 : (⟨#[61, 50, 124]⟩ : ByteArray).size = 3 := rfl
  rw [ByteArray.size_append, h3]; omega
theorem brow_at (w : World) (g : Nat) (row : List Bd) (h : w.heap[g]? = some (.cells (rowCells row).toArray 45)) (hn : row.length ≤ 100) : BRow w (fun b => b = g) (.slice (some ⟨g, 0, none⟩) row.length row.length) row :=
  ⟨_, _, rfl, Nat.le_refl _, by unfold maxLen; omega, (fun h => by cases h), fun _ => ⟨_, rfl, block_lt h, rfl, fun j u hu => row_cells h j u (by simpa using hu)⟩⟩
theorem app2_size (T : ByteArray) (a b : UInt8) : (T ++ ⟨#[a, b]⟩).size = T.size + 2 := by
  have h : (⟨#[a, b]⟩ : ByteArray).size = 2 := rfl
  rw [ByteArray.size_append, h]
theorem app1_size (T : ByteArray) (a : UInt8) : (T ++ ⟨#[a]⟩).size = T.size + 1 := by
  have h : (⟨#[a]⟩ : ByteArray).size = 1 := rfl
  rw [ByteArray.size_append, h]
set_option maxRecDepth 100000 in
set_option maxHeartbeats 8000000 in
theorem rangesKnown_walk (w : World) (_ : True) : Calls Tryd.prog 8 #[] w fun e w' => e = .returned (.bool true) ∧ Below w.heap.size w w' := by
  obtain ⟨i0, hi, hz0, hz1, hz2⟩ := info_parts infoBRow
  obtain ⟨i1, hi1, hy0, hy1, hy2⟩ := info_parts infoBound
  have HI := Lib.hid hi
  have HZ0 := Lib.hid hz0
  have HZ1 := Lib.hid hz1
  have HZ2 := Lib.hid hz2
  have HI1 := Lib.hid hi1
  have HY0 := Lib.hid hy0
  have HY1 := Lib.hid hy1
  have HY2 := Lib.hid hy2
  clear hi hz0 hz1 hz2 hi1 hy0 hy1 hy2
  obtain ⟨W0, hW0, hgV, hgS, hb0⟩ := known2 w
  have HW0 := Lib.hid hW0
  have HB0 := Lib.hid hb0
  have hltV := block_lt hgV
  have hltS := block_lt hgS
  have HV := Lib.hid (fun w' (hb : Below W0.heap.size W0 w') => (((RdS.reads (S := AllB) (xs := strs vL) (reads_block hgV (by decide))).below hb).more hb.size))
  have HCV := Lib.hid (fun (k : Nat) (hk : k < 17) w' (hb : Below W0.heap.size W0 w') => (hb.cell (p := ⟨w.heap.size, k, none⟩) hltV).trans (cell_strs vL hgV k hk))
  have HCS := Lib.hid (fun (k : Nat) (hk : k < 8) w' (hb : Below W0.heap.size W0 w') => (hb.cell (p := ⟨w.heap.size + 1, k, none⟩) hltS).trans (cell_strs sL hgS k hk))
  clear hW0 hb0 hltV hltS hgV hgS
  go_enter Tryd.func8, Tryd.ntmps8
  go_upto_region 3 with (fail)
  rw [← HW0.out]
  clear HW0
  go_wp2
  go_loopw [3] (fun iv wr => ∃ (i : Nat), i ≤ 17 ∧ iv = .int .i64 (i : Int) ∧ Hid (Below W0.heap.size W0 wr)) (fun iv _ => 17 - (intOf iv).toNat)
  case atStart => exact ⟨0, by omega, rfl, Lib.hid (Below.refl _ _)⟩
  case round =>
    obtain ⟨i, hi, rfl, HBA⟩ := hrel
    by_cases hit : i < 17
    · have hitI : (i : Int) < 17 := by omega
      go_wp2
      go_loopw [4] (fun kv wr => ∃ (k : Nat), k ≤ 8 ∧ kv = .int .i64 (k : Int) ∧ Hid (Below W0.heap.size W0 wr)) (fun kv _ => 8 - (intOf kv).toNat)
      case atStart => exact ⟨0, by omega, rfl, HBA⟩
      case round =>
        obtain ⟨k, hk, rfl, HB⟩ := hrel
        by_cases hkt : k < 8
        · have hktI : (k : Int) < 8 := by omega
          have hkt17 : (k : Int) < 17 := by omega
          have hk0 : (0 : Int) ≤ (k : Int) := by omega
          have hi0 : (0 : Int) ≤ (i : Int) := by omega
          have hcs := HCS.out k hkt wr HB.out
          have hcv := HCV.out i hit wr HB.out
          obtain ⟨sg, hsg⟩ : ∃ s, s = sL.getD k ⟨#[]⟩ := ⟨_, rfl⟩
          obtain ⟨ve, hve⟩ : ∃ s, s = vL.getD i ⟨#[]⟩ := ⟨_, rfl⟩
          obtain ⟨vk, hvk⟩ : ∃ s, s = vL.getD k ⟨#[]⟩ := ⟨_, rfl⟩
          have hsz : sg.size ≤ 10 := by rw [hsg]; exact sL_small k hkt
          have hvz : ve.size ≤ 10 := by rw [hve]; exact vL_small i hit
          have hkz : vk.size ≤ 10 := by rw [hvk]; exact vL_small k (by omega)
          have HCI := Lib.hid (fun w' hb => HCV.out i hit w' hb)
          have HCK := Lib.hid (fun w' hb => HCV.out k (by omega) w' hb)
          rw [← hsg] at hcs
          rw [← hve] at hcv HCI
          rw [← hvk] at HCK
          have hku : IntKind.u8.wrap (k : Int) = (k : Int) := u8_small k (by omega)
          clear hsg hve hvk
          go_upto_region 9 with (fail)
          go_quiet (fail)
          obtain ⟨wd, hwd⟩ : ∃ wd : World, wd = wr.drewN nq := ⟨_, rfl⟩
          have HBD := Lib.hid (show Below W0.heap.size W0 wd by rw [hwd]; exact below_drewN HB.out _)
          rw [← hwd]
          obtain ⟨T, hT⟩ : ∃ T, T = sg ++ ve := ⟨_, rfl⟩
          have hTz : T.size ≤ 100 := by rw [hT, ByteArray.size_append]; omega
          rw [← hT]
          have hcv2 := HCI.out wd HBD.out
          clear hwd hcs hcv hT
          go_wp2_with fail
          refine (one_any k ve _).mono ?_
          rintro e w1 ⟨u, rfl, hr, hb1⟩
          have HB1 := Lib.hid (below_step HBD.out hb1 HBD.out.size)
          clear hb1 hcv2
          go_wp2_with fail
          refine (parse_law T _ (by omega)).mono ?_
          rintro e w2 ⟨rfl, hb2⟩
          have HB2 := Lib.hid (below_step HB1.out hb2 HB1.out.size)
          replace hr := hr.below hb2
          clear hb2
          go_wp2_with fail
          refine (print_law _ _ _ hr).mono ?_
          rintro e w3 ⟨rfl, hb3⟩
          have HB3 := Lib.hid (below_step HB2.out hb3 HB2.out.size)
          replace hr := hr.below hb3
          clear hb3
          go_wp2_with fail
          refine (allows_law _ _ _ _ _ hr (HV.out _ HB3.out)).mono ?_
          rintro e w4 ⟨rfl, hb4⟩
          have HB4 := Lib.hid (below_step HB3.out hb4 HB3.out.size)
          replace hr := hr.below hb4
          have hck := HCK.out w4 HB4.out
          clear hb4
          go_wp2_with fail
          refine (back_law T _ _ vk _ (by omega) hr (by omega)).mono ?_
          rintro e w5 ⟨rfl, hb5⟩
          have HB5 := Lib.hid (below_step HB4.out hb5 HB4.out.size)
          clear hb5 hck hr
          go_wp2_with fail
          refine (parse_law _ _ (s1_size T hTz)).mono ?_
          rintro e w6 ⟨rfl, hb6⟩
          have HB6 := Lib.hid (below_step HB5.out hb6 HB5.out.size)
          clear hb6
          go_wp2_with fail
          refine (parse_law _ _ (s2_size T hTz)).mono ?_
          rintro e w7 ⟨rfl, hb7⟩
          have HB7 := Lib.hid (below_step HB6.out hb7 HB6.out.size)
          clear hb7
          go_wp2
          go_loopw [7] (fun nv wr => ∃ (n : Nat), n ≤ 17 ∧ nv = .int .i64 (n : Int) ∧ Hid (Below W0.heap.size W0 wr)) (fun nv _ => 17 - (intOf nv).toNat)
          case atStart => exact ⟨0, by omega, rfl, HB7⟩
          case round =>
            obtain ⟨n, hn, rfl, HBN⟩ := hrel
            by_cases hnt : n < 17
            · have hntI : (n : Int) < 17 := by omega
              have hn0 : (0 : Int) ≤ (n : Int) := by omega
              obtain ⟨j, hj⟩ : ∃ j : Nat, j = (n + k) % 17 := ⟨_, rfl⟩
              have hj17 : j < 17 := by omega
              have hj0 : (0 : Int) ≤ (j : Int) := by omega
              have hj1 : (j : Int) < 17 := by omega
              have hcn := HCV.out n hnt wr HBN.out
              have hci := HCI.out wr HBN.out
              have hcj := HCV.out j hj17 wr HBN.out
              obtain ⟨vn, hvn⟩ : ∃ s, s = vL.getD n ⟨#[]⟩ := ⟨_, rfl⟩
              obtain ⟨vj, hvj⟩ : ∃ s, s = vL.getD j ⟨#[]⟩ := ⟨_, rfl⟩
              have hnz : vn.size ≤ 10 := by rw [hvn]; exact vL_small n hnt
              have hjz : vj.size ≤ 10 := by rw [hvj]; exact vL_small j hj17
              rw [← hvn] at hcn
              rw [← hvj] at hcj
              have hkk : ∀ w', KeepW wr wr.heap.size w' → (w'.cell? ⟨w.heap.size, n, none⟩ = some (.string vn) ∧ w'.cell? ⟨w.heap.size, i, none⟩ = some (.string ve) ∧ w'.cell? ⟨w.heap.size, j, none⟩ = some (.string vj)) ∧ KeepW wr wr.heap.size w' := fun w' h =>
                ⟨⟨(h.1.cell (p := ⟨w.heap.size, n, none⟩) (block_lt_of_cell hcn)).trans hcn, (h.1.cell (p := ⟨w.heap.size, i, none⟩) (block_lt_of_cell hci)).trans hci, (h.1.cell (p := ⟨w.heap.size, j, none⟩) (block_lt_of_cell hcj)).trans hcj⟩, h⟩
              have hap : ∀ w', KeepW wr wr.heap.size w' → Calls Tryd.prog 7 #[.string vn, .string ve, .string vj, .int .u8 (k : Int), .int .u8 (n : Int)] w' fun e w2 => e = .returned (.bool true) ∧ KeepW wr wr.heap.size w2 := fun w' h => h.calls (apart_law vn ve vj k n w' (by omega) (by omega) (by omega) (by omega) hnt)
              have HKK := Lib.hid hkk
              have HAP := Lib.hid hap
              have hk0' : KeepW wr wr.heap.size wr := KeepW.start (Nat.le_refl _)
              have hnu : IntKind.u8.wrap (n : Int) = (n : Int) := u8_small n hnt
              have hw1 : IntKind.i64.wrap ((n : Int) + (k : Int)) = (n : Int) + (k : Int) := IntWalk.i64_in _ (by omega)
              have hw2 : Int.tmod ((n : Int) + (k : Int)) 17 = (j : Int) := by rw [Int.tmod_eq_emod_of_nonneg (by omega)]; omega
              have hw3 : ((n : Int) + (k : Int)) % 17 = (j : Int) := by omega
              have hw4 : IntKind.i64.wrap (j : Int) = (j : Int) := IntWalk.i64_in _ (by omega)
              clear hvn hvj hkk hap hj
              go_upto_region 16 with (fail)
              go_region_held3 (fun w' => (w'.cell? ⟨w.heap.size, n, none⟩ = some (.string vn) ∧ w'.cell? ⟨w.heap.size, i, none⟩ = some (.string ve) ∧ w'.cell? ⟨w.heap.size, j, none⟩ = some (.string vj)) ∧ KeepW wr wr.heap.size w') (first | exact HKK.out _ (by assumption) | exact HKK.out _ (KeepW.drew (by assumption)) | go_keep) (first | (go_at_call 7; refine (HAP.out _ (by first | assumption | exact KeepW.drew (by assumption))).mono ?_; rintro e w8 ⟨rfl, hk8⟩))
              all_goals
                have HB8 := Lib.hid (below_step HBN.out hk8.1 HBN.out.size)
                clear hw1 hw2 hw3 hw4 hk0' hk8
                go_wp2_with fail
                go_roundw
                case rel => exact ⟨n + 1, by omega, by go_num, HB8⟩
                case measure => simp [intOf]; omega
            · have hntI : ¬ (n : Int) < 17 := by omega
              go_wp2
              go_roundw
              case rel => exact ⟨k + 1, by omega, by go_num, HBN⟩
              case measure => simp [intOf]; omega
        · have hktI : ¬ (k : Int) < 8 := by omega
          go_wp2
          go_roundw
          case rel => exact ⟨i + 1, by omega, by go_num, HB⟩
          case measure => simp [intOf]; omega
    · have hitI : ¬ (i : Int) < 17 := by omega
      go_wp2
      obtain ⟨W2, hW2, hgT, hb2⟩ := known3 wr
      rw [← hW2]
      have hltT := block_lt hgT
      have HB2 := Lib.hid (below_step HBA.out hb2 HBA.out.size)
      obtain ⟨g3, hg3⟩ : ∃ g, g = wr.heap.size := ⟨_, rfl⟩
      rw [← hg3] at hgT hltT ⊢
      have HCT := Lib.hid (fun (t : Nat) (ht : t < 19) w' (hb : Below W2.heap.size W2 w') => (hb.cell (p := ⟨g3, t, none⟩) hltT).trans (cell_strs tL hgT t ht))
      clear hW2 hb2 hgT hltT hg3
      go_loopw [112] (fun tv wr => ∃ (t : Nat), t ≤ 19 ∧ tv = .int .i64 (t : Int) ∧ Hid (Below W2.heap.size W2 wr)) (fun tv _ => 19 - (intOf tv).toNat)
      case atStart => exact ⟨0, by omega, rfl, Lib.hid (Below.refl _ _)⟩
      case round =>
        obtain ⟨t, ht, rfl, HBT⟩ := hrel
        by_cases htt : t < 19
        · have httI : (t : Int) < 19 := by omega
          have ht0 : (0 : Int) ≤ (t : Int) := by omega
          have hct := HCT.out t htt wr HBT.out
          obtain ⟨sx, hsx⟩ : ∃ s, s = tL.getD t ⟨#[]⟩ := ⟨_, rfl⟩
          have hxz : sx.size ≤ 10 := by rw [hsx]; exact tL_small t htt
          rw [← hsx] at hct
          clear hsx
          go_wp2_with fail
          refine (parse_law sx _ (by omega)).mono ?_
          rintro e w2 ⟨rfl, hb2⟩
          have HB3 := Lib.hid (below_step HBT.out hb2 HBT.out.size)
          clear hb2 hct
          go_wp2_with fail
          refine (back_law sx _ [] _ _ (by omega) (RngAt.nil _) (by decide)).mono ?_
          rintro e w3 ⟨rfl, hb3⟩
          have HB4 := Lib.hid (below_step HB3.out hb3 HB3.out.size)
          clear hb3
          go_wp2
          go_roundw
          case rel => exact ⟨t + 1, by omega, by go_num, HB4⟩
          case measure => simp [intOf]; omega
        · have httI : ¬ (t : Int) < 19 := by omega
          have HB3 := Lib.hid (below_step HB2.out HBT.out HB2.out.size)
          go_wp2
          obtain ⟨W3, hW3⟩ : ∃ W3 : World, W3 = wr := ⟨_, rfl⟩
          rw [← hW3] at HB3 ⊢
          clear hW3
          go_loopw [10, 11, 12, 13, 14] (fun wv rv tv lv iv wq => ∃ (i : Nat) (T L : ByteArray) (R : List Bd) (vs : List Value) (q : List (List Bd)), i ≤ 17 ∧ iv = .int .i64 (i : Int) ∧ tv = .string T ∧ lv = .string L ∧ T.size ≤ 4 * i ∧ L.size ≤ 4 * i ∧ Hid (Inv5 W3 wq rv wv i R vs q)) (fun _ _ _ _ iv _ => 17 - (intOf iv).toNat)
          case atStart => exact ⟨0, ⟨#[]⟩, ⟨#[]⟩, [], [], [], by omega, rfl, rfl, rfl, by decide, by decide, Lib.hid (Inv5.start W3.heap.size (own_empty W3 _ _ 2 (Nat.le_refl _)) ((Below.refl _ _).alloc (Nat.le_refl _) _))⟩
          case round =>
            obtain ⟨i, T, L, R, vs, q, hi, rfl, rfl, rfl, hTz, hLz, INV⟩ := hrel
            obtain ⟨A1, c1, rfl⟩ := own_form INV.out.row
            obtain ⟨A2, c2, rfl⟩ := own_form INV.out.wide
            have hW3s := INV.out.size
            by_cases hlt : i < 17
            · have hltI : (i : Int) < 17 := by omega
              go_upto_region 30 with (fail)
              go_wp2_with (at_builtin; refine wpList_appK rfl _ _ 31 rfl W3.heap.size 45 i1 _ 2 24 Tryd.underlying31 HI1.out HY0.out HY1.out HY2.out rfl (by decide) _ _ _ rfl (INV.out.row.alloc _) ⟨wr.heap.size, 0, none⟩ 1 1 [.int .u8 5, .string ⟨#[49]⟩] rfl rfl ?c1 ?c2 ?c3 ?c4 ?c5 ?_)
              case c1 => intro j u hu; exact row_cells (heap_alloc_new _ _) j u (by simpa using hu)
              case c2 => simp [Value.oneCell']
              case c3 => unfold maxLen; omega
              case c4 => omega
              case c5 => simp; omega
              intro v1 w2 hown hgrow hmov
              have inv1 := INV.out.step ((Below.refl wr.heap.size wr).alloc (Nat.le_refl _) (.cells #[.int .u8 5, .string ⟨#[49]⟩] 45))
              obtain ⟨hrow2, hwide2, hit2, hap2, hbl2⟩ := inv1.grow_row (5, ⟨#[49]⟩) hown hgrow hmov
              obtain ⟨A3, c3, rfl⟩ := own_form hown
              have hRl := INV.out.hR
              have hql := INV.out.hq
              have HROW2 := Lib.hid hrow2
              have HWIDE2 := Lib.hid hwide2
              have HIT2 := Lib.hid hit2
              have HAP2 := Lib.hid hap2
              have HBL2 := Lib.hid hbl2
              have HRL := Lib.hid (show (R ++ [((5 : Nat), (⟨#[49]⟩ : ByteArray))]).length = i + 1 by rw [List.length_append, hRl]; rfl)
              have HQL := Lib.hid hql
              clear hown hgrow hmov inv1 hrow2 hwide2 hit2 hap2 hbl2 hRl hql INV
              go_wp2_with (at_builtin; refine wpList_app rfl _ _ 24 rfl W3.heap.size 31 i0 (.slice none 0 0) 24 Tryd.underlying24 HI.out HZ0.out HZ1.out HZ2.out rfl _ i vs rfl ((HWIDE2.out.alloc _).alloc _) ⟨w2.heap.size + 1, 0, none⟩ 1 1 [.slice (some ⟨w2.heap.size, 0, none⟩) 1 1] rfl rfl ?q1 ?q2 ?q3 ?q4 ?q5 ?_)
              case q1 => intro j u hu; exact row_cells (two_new w2 _ _).2 j u (by simpa using hu)
              case q2 => simp [Value.oneCell']
              case q3 => unfold maxLen; omega
              case q4 => omega
              case q5 => have := HBL2.out.size; simp; omega
              intro v2 w5 hown5 hgrow5 hmov5
              have hb24 := ((Below.refl w2.heap.size w2).alloc (Nat.le_refl _) (.cells #[.int .u8 1, .string ⟨#[50]⟩] 45)).alloc (by simp) (.cells #[.slice (some ⟨w2.heap.size, 0, none⟩) 1 1] 31)
              have hu := (brow_at ((w2.alloc (.cells #[.int .u8 1, .string ⟨#[50]⟩] 45)).alloc (.cells #[.slice (some ⟨w2.heap.size, 0, none⟩) 1 1] 31)) w2.heap.size [((1 : Nat), (⟨#[50]⟩ : ByteArray))] (two_new w2 _ _).1 (by simp))
              have hu2 : BRow ((w2.alloc (.cells #[.int .u8 1, .string ⟨#[50]⟩] 45)).alloc (.cells #[.slice (some ⟨w2.heap.size, 0, none⟩) 1 1] 31)) (AwayS (.slice A2 i c2) (.slice A3 (i + 1) c3)) (.slice (some ⟨w2.heap.size, 0, none⟩) 1 1) [((1 : Nat), (⟨#[50]⟩ : ByteArray))] := RdS.weak hu fun g _ hS => by
                subst hS
                exact ⟨fun e => by have := (HWIDE2.out.lt _ e).2; omega, fun e => by have := (HROW2.out.lt _ e).2; omega⟩
              have inv5 : Inv5 W3 w5 (.slice A3 (i + 1) c3) v2 (i + 1) _ _ _ := Inv5.grow_wide (.slice (some ⟨w2.heap.size, 0, none⟩) 1 1) [((1 : Nat), (⟨#[50]⟩ : ByteArray))] (own_below HROW2.out hb24 (Nat.le_refl _)) (own_below HWIDE2.out hb24 (Nat.le_refl _)) (HIT2.out.keep BRow.keeps (SameS.below hb24 _)) HAP2.out (below_step HBL2.out hb24 HBL2.out.size) hu2 HRL.out HQL.out hown5 hgrow5 hmov5
              obtain ⟨A5, c5, rfl⟩ := own_form hown5
              have INV5 := Lib.hid inv5
              clear hown5 hgrow5 hmov5 hb24 hu hu2 inv5 HROW2 HWIDE2 HIT2 HAP2 HBL2
              go_wp2_with fail
              refine (print_law _ _ _ INV5.out.rng).mono ?_
              rintro e w6 ⟨rfl, hb6⟩
              have INV6 := Lib.hid (INV5.out.step hb6)
              clear hb6 INV5
              go_wp2_with fail
              have hb67 := (Below.refl w6.heap.size w6).alloc (Nat.le_refl _) (.cells #[.slice A3 (i + 1) c3] 31)
              refine (print_law _ _ _ (rng_of_row (INV6.out.step hb67).brow (heap_alloc_new w6 _))).mono ?_
              rintro e w7 ⟨rfl, hb7⟩
              have INV7 := Lib.hid ((INV6.out.step hb67).step hb7)
              clear hb7 hb67 INV6
              go_wp2_with fail
              refine (allows_law _ _ _ _ _ INV7.out.rng (HV.out _ (below_step HB3.out INV7.out.below HB3.out.size))).mono ?_
              rintro e w8 ⟨rfl, hb8⟩
              have INV8 := Lib.hid (INV7.out.step hb8)
              clear hb8 INV7
              go_wp2_with fail
              have hb89 := (Below.refl w8.heap.size w8).alloc (Nat.le_refl _) (.cells #[.slice A3 (i + 1) c3] 31)
              refine (allows_law _ _ _ _ _ (rng_of_row (INV8.out.step hb89).brow (heap_alloc_new w8 _)) (HV.out _ (below_step HB3.out (INV8.out.step hb89).below HB3.out.size))).mono ?_
              rintro e w9 ⟨rfl, hb9⟩
              have INV9 := Lib.hid ((INV8.out.step hb89).step hb9)
              clear hb9 hb89 INV8
              obtain ⟨T1, hT1⟩ : ∃ T1, T1 = T ++ ⟨#[62, 49]⟩ := ⟨_, rfl⟩
              obtain ⟨L1, hL1⟩ : ∃ L1, L1 = L ++ ⟨#[61, 50]⟩ := ⟨_, rfl⟩
              have hT1z : T1.size ≤ 4 * i + 2 := by rw [hT1, app2_size]; omega
              have hL1z : L1.size ≤ 4 * i + 2 := by rw [hL1, app2_size]; omega
              go_upto_region 36 with (fail)
              rw [← hT1, ← hL1]
              clear hT1 hL1
              go_wp2_with fail
              refine (parse_law T1 _ (by omega)).mono ?_
              rintro e w10 ⟨rfl, hb10⟩
              have INV10 := Lib.hid (INV9.out.step hb10)
              clear hb10 INV9
              go_wp2_with fail
              refine (parse_law L1 _ (by omega)).mono ?_
              rintro e w11 ⟨rfl, hb11⟩
              have INV11 := Lib.hid (INV10.out.step hb11)
              have hT2 : (T1 ++ ⟨#[44]⟩).size ≤ 4 * (i + 1) := by rw [app1_size]; omega
              have hL2 : (L1 ++ ⟨#[124]⟩).size ≤ 4 * (i + 1) := by rw [app1_size]; omega
              have HT2 := Lib.hid hT2
              have HL2 := Lib.hid hL2
              clear hb11 INV10 hT2 hL2
              go_wp2
              go_roundw
              case rel => exact ⟨i + 1, _, _, _, _, _, by omega, by go_num, rfl, rfl, HT2.out, HL2.out, INV11⟩
              case measure => simp [intOf]; omega
            · have hltI : ¬ (i : Int) < 17 := by omega
              have HBW := Lib.hid (below_step HB3.out INV.out.below HB3.out.size)
              clear INV
              go_wp2_with fail
              have hbe := ((Below.refl wr.heap.size wr).alloc (Nat.le_refl _) (.cells #[] 45)).alloc (by simp) (.cells #[.slice (some ⟨wr.heap.size, 0, none⟩) 0 0] 31)
              refine (print_law _ [[]] _ (rng_of_row (row := []) (RdS.own (own_empty wr wr.heap.size 45 2 (Nat.le_refl _)) |>.all.below ((Below.refl _ _).alloc (Nat.le_refl _) _)) (by have := (two_new wr (.cells #[] 45) (.cells #[.slice (some ⟨wr.heap.size, 0, none⟩) 0 0] 31)).2; exact this))).mono ?_
              rintro e w2 ⟨rfl, hb2⟩
              have HB5 := Lib.hid (below_step (below_step HBW.out hbe HBW.out.size) hb2 (Nat.le_trans HBW.out.size hbe.size))
              clear hb2 hbe
              go_wp2_with fail
              have hbe := ((Below.refl w2.heap.size w2).alloc (Nat.le_refl _) (.cells #[] 45)).alloc (by simp) (.cells #[.slice (some ⟨w2.heap.size, 0, none⟩) 0 0] 31)
              refine (allows_law _ _ [[]] _ _ (rng_of_row (row := []) (RdS.own (own_empty w2 w2.heap.size 45 2 (Nat.le_refl _)) |>.all.below ((Below.refl _ _).alloc (Nat.le_refl _) _)) (by have := (two_new w2 (.cells #[] 45) (.cells #[.slice (some ⟨w2.heap.size, 0, none⟩) 0 0] 31)).2; exact this)) (HV.out _ (below_step HB5.out hbe HB5.out.size))).mono ?_
              rintro e w3 ⟨rfl, hb3⟩
              have HB6 := Lib.hid (below_step (below_step HB5.out hbe HB5.out.size) hb3 (Nat.le_trans HB5.out.size hbe.size))
              clear hb3 hbe
              go_wp2_with fail
              refine (one_any 8 ⟨#[49]⟩ _).mono ?_
              rintro e w4 ⟨u4, rfl, hr4, hb4⟩
              have HB7 := Lib.hid (below_step HB6.out hb4 HB6.out.size)
              clear hb4
              go_wp2_with fail
              refine (print_law _ _ _ hr4).mono ?_
              rintro e w5 ⟨rfl, hb5⟩
              have HB8 := Lib.hid (below_step HB7.out hb5 HB7.out.size)
              clear hb5 hr4
              go_wp2_with fail
              refine (one_any 0 ⟨#[49]⟩ _).mono ?_
              rintro e w6 ⟨u6, rfl, hr6, hb6⟩
              have HB9 := Lib.hid (below_step HB8.out hb6 HB8.out.size)
              clear hb6
              go_wp2_with fail
              refine (print_law _ _ _ hr6).mono ?_
              rintro e w7 ⟨rfl, hb7⟩
              have HB10 := Lib.hid (below_step HB9.out hb7 HB9.out.size)
              clear hb7 hr6
              go_wp2_with fail
              refine (one_any 0 ⟨#[120]⟩ _).mono ?_
              rintro e w8 ⟨u8, rfl, hr8, hb8⟩
              have HB11 := Lib.hid (below_step HB10.out hb8 HB10.out.size)
              clear hb8
              go_wp2_with fail
              refine (print_law _ _ _ hr8).mono ?_
              rintro e w9 ⟨rfl, hb9⟩
              have HB12 := Lib.hid (below_step HB11.out hb9 HB11.out.size)
              clear hb9 hr8
              go_wp2_with fail
              refine (allows_law _ _ [] _ _ (RngAt.nil _) (HV.out _ HB12.out)).mono ?_
              rintro e w10 ⟨rfl, hb10⟩
              have HB13 := Lib.hid (below_step HB12.out hb10 HB12.out.size)
              clear hb10
              go_wp2_with fail
              refine (works_any _).mono ?_
              rintro e w11 ⟨rfl, hb11⟩
              go_wp2
              go_ret
              exact ⟨rfl, HB0.out.trans ((below_step HB13.out hb11 HB13.out.size).mono HB0.out.size)⟩
end Go.Proofs.YtjckcdemkpmheaaDoor
