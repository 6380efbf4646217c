/- drv: DrvKnown, walked. -/
import Derived.Test.YtbniilajffjfcaaGreatDoorDrvMc
set_option linter.unusedVariables false
set_option linter.unusedSimpArgs false
namespace Go.Proofs.YtbniilajffjfcaaGreatDoor
open Go.RowKit Go.BigFrame

theorem lets0 (w : World) : Calls Tryz.prog 4 #[.agg #[.int .u8 0, .int .u8 0, .int .u8 0, .int .u8 0, .int .u8 0, .int .u8 0, .int .u8 0, .int .u8 0, .int .u8 0, .int .u8 0, .int .u8 0, .int .u8 0, .int .u8 0, .int .u8 0, .int .u8 0, .int .u8 0, .int .u8 0, .int .u8 0, .int .u8 0, .int .u8 0, .int .u8 0, .int .u8 0, .int .u8 0, .int .u8 0, .int .u8 0, .int .u8 0, .int .u8 0, .int .u8 0, .int .u8 0, .int .u8 0, .int .u8 0, .int .u8 0]] w fun e w' => ∃ s : ByteArray, e = .returned (.string s) ∧ s.size = 32 ∧ Below w.heap.size w w' :=
  lets_any (fun _ => 0) (fun _ => by decide) w
theorem lets9 (w : World) : Calls Tryz.prog 4 #[.agg #[.int .u8 9, .int .u8 0, .int .u8 0, .int .u8 0, .int .u8 0, .int .u8 0, .int .u8 0, .int .u8 0, .int .u8 0, .int .u8 0, .int .u8 0, .int .u8 0, .int .u8 0, .int .u8 0, .int .u8 0, .int .u8 0, .int .u8 0, .int .u8 0, .int .u8 0, .int .u8 0, .int .u8 0, .int .u8 0, .int .u8 0, .int .u8 0, .int .u8 0, .int .u8 0, .int .u8 0, .int .u8 0, .int .u8 0, .int .u8 0, .int .u8 0, .int .u8 0]] w fun e w' => ∃ s : ByteArray, e = .returned (.string s) ∧ s.size = 32 ∧ Below w.heap.size w w' :=
  lets_any (fun i => if i = 0 then 9 else 0) (fun i => by split <;> decide) w
theorem two_conv (W : World) (x y : Nat) (hx : x < 256) (hy : y < 256) : ∃ s : ByteArray, s.size = 2 ∧ (convert 26 9 (.slice (some ⟨W.heap.size, 0, none⟩) 2 2)).run Tryz.prog (W.alloc (.cells #[.int .u8 (x : Int), .int .u8 (y : Int)] 5)) = .ok (.string s) (W.alloc (.cells #[.int .u8 (x : Int), .int .u8 (y : Int)] 5)) := by
  have hB : Byt (W.alloc (.cells #[.int .u8 (x : Int), .int .u8 (y : Int)] 5)) (.slice (some ⟨W.heap.size, 0, none⟩) 2 2) [UInt8.ofNat x, UInt8.ofNat y] := by
    refine ⟨_, _, rfl, Nat.le_refl _, by decide, fun _ => ⟨_, rfl, by simp, fun j hj => ?_⟩, fun h => by cases h⟩
    have hj2 : j < 2 := hj
    refine row_cellsF (heap_alloc_new W _) j _ ?_
    match j, hj2 with
    | 0, _ => simp [dOf, Nat.mod_eq_of_lt hx]
    | 1, _ => simp [dOf, Nat.mod_eq_of_lt hy]
  exact ⟨_, by rw [strOf_size]; rfl, hB.conv⟩
set_option maxRecDepth 100000 in
set_option maxHeartbeats 16000000 in
set_option maxRecDepth 100000 in
theorem known_w (w : World) (ht : Sha.Tabs w) : Calls Tryz.prog 3 #[] w (YesNo true w) := by
  have HP := Lib.hid (fun (w' : World) (hb : Below w.heap.size w w') => show YesNo true w (.returned (.bool true)) w' from ⟨rfl, hb⟩)
  generalize YesNo true w = post at *
  have HT := Lib.hid (fun (w' : World) (h : Below w.heap.size w w') => ht.below h)
  clear ht
  have HL0 := Lib.hid (lets0 w)
  go_enter Tryz.func3, Tryz.ntmps3
  go_wp2_with fail
  refine HL0.out.mono ?_
  rintro e w1 ⟨z, rfl, hz, hb⟩
  have HB1 := Lib.hid hb
  have HL1 := Lib.hid (lets9 w1)
  clear hb HL0
  go_wp2_with fail
  refine HL1.out.mono ?_
  rintro e w2 ⟨o, rfl, ho, hb⟩
  have HB2 := Lib.hid (step HB1.out hb)
  clear hb HL1 HB1
  go_wp2_with fail
  obtain ⟨zero, hzero⟩ : ∃ s, s = z ++ (⟨#[45, 97]⟩ : ByteArray) := ⟨_, rfl⟩
  obtain ⟨one, hone⟩ : ∃ s, s = o ++ (⟨#[45, 98]⟩ : ByteArray) := ⟨_, rfl⟩
  rw [← hzero, ← hone]
  have hz34 : zero.size = 34 := by rw [hzero, ByteArray.size_append, hz]; rfl
  have ho34 : one.size = 34 := by rw [hone, ByteArray.size_append, ho]; rfl
  clear hzero hone hz ho
  go_loop [3, 4] (fun sv iv => ∃ (i : Nat) (s : ByteArray), i ≤ 61 ∧ iv = .int .i64 (i : Int) ∧ sv = .string s ∧ s.size = i) (fun _ iv => 61 - (intOf iv).toNat)
  case atStart => exact ⟨0, ⟨#[]⟩, by omega, rfl, rfl, rfl⟩
  case round =>
    obtain ⟨i, s, hi, rfl, rfl, hs⟩ := hrel
    by_cases hlt : i < 61
    · have hli : (i : Int) < 61 := by omega
      have hsz : (s ++ ⟨#[110]⟩).size = s.size + 1 := by rw [ByteArray.size_append]; rfl
      go_wp2
      go_round
      case rel => exact ⟨i + 1, _, by omega, by go_num, rfl, by omega⟩
      case measure => simp [intOf]; omega
    · have hli : ¬ (i : Int) < 61 := by omega
      have hs61 : s.size = 61 := by omega
      clear hs hi
      go_wp2
      go_loopw [5, 6] (fun mv iv wr => ∃ (k : Nat) (l : List ByteArray) (A' : Option Addr) (c' : Nat), k ≤ 65 ∧ iv = .int .i64 (k : Int) ∧ l.length = k ∧ mv = .slice A' l.length c' ∧ Hid (∀ t ∈ l, t.size ≤ 1000) ∧ Hid (wr.ownsRow w2.heap.size 9 1 (.slice A' l.length c') l.length (strs l)) ∧ Hid (Below w2.heap.size w2 wr)) (fun _ iv _ => 65 - (intOf iv).toNat)
      case atStart => exact ⟨0, [], none, 0, by omega, rfl, rfl, rfl, Lib.hid (fun t ht => by simp at ht), Lib.hid (World.ownsRow_nil _ _ _ _), Lib.hid (Below.refl _ _)⟩
      case round =>
        obtain ⟨k, l, A', c', hk, rfl, hlk, rfl, HS, HO, HBW⟩ := hrel
        by_cases hlt : k < 65
        · have hki : (k : Int) < 65 := by omega
          obtain ⟨t2, ht2, hcv⟩ : ∃ s : ByteArray, s.size = 2 ∧ (convert 26 9 (.slice (some ⟨wr.heap.size, 0, none⟩) 2 2)).run Tryz.prog (wr.alloc (.cells #[.int .u8 (97 + (k : Int) / 26), .int .u8 (97 + (k : Int) % 26)] 5)) = .ok (.string s) (wr.alloc (.cells #[.int .u8 (97 + (k : Int) / 26), .int .u8 (97 + (k : Int) % 26)] 5)) := by
            have := two_conv wr (97 + k / 26) (97 + k % 26) (by omega) (by omega)
            push_cast at this
            exact this
          have h36 : (zero ++ t2).size = 36 := by rw [ByteArray.size_append]; omega
          obtain ⟨l2, hl2⟩ : ∃ l2, l2 = l ++ [zero ++ t2] := ⟨_, rfl⟩
          have HL2 := Lib.hid hl2
          have HS2 := Lib.hid (show ∀ t ∈ l2, t.size ≤ 1000 by
            rw [hl2]
            intro t ht
            rcases List.mem_append.1 ht with h | h
            · exact HS.out t h
            · rw [List.mem_singleton.1 h]; omega)
          have HK2 := Lib.hid (show l2.length = k + 1 by rw [hl2]; simp [hlk])
          clear hl2 h36
          go_wp2_with (at_builtin; refine wpList_pushT rfl _ _ rfl w2.heap.size _ l rfl ((HO.out.alloc _).alloc _) ⟨wr.heap.size + 1, 0, none⟩ (zero ++ t2) rfl ?_ ?_ ?_ _ HL2.out ?_)
          · exact (cell_of_row _ _ _ _ _ _ (by have h := heap_alloc_new (wr.alloc (.cells #[.int .u8 (97 + (k : Int) / 26), .int .u8 (97 + (k : Int) % 26)] 5)) (.cells #[.string (zero ++ t2)] 9); rwa [World.size_alloc] at h)).trans rfl
          · omega
          · have := HBW.out.size; simp; omega
          · intro A4 c4 w4 hown4 hb4
            have HB4 := Lib.hid (((HBW.out.alloc HBW.out.size _).alloc (by have := HBW.out.size; simp; omega) _).trans hb4)
            have HO4 := Lib.hid hown4
            clear hown4 hb4
            go_wp2
            go_roundw
            case rel => exact ⟨k + 1, l2, A4, c4, by omega, by go_num, HK2.out, rfl, HS2, HO4, HB4⟩
            case measure => simp [intOf]; omega
        · have hki : ¬ (k : Int) < 65 := by omega
          have h65 : l.length = 65 := by omega
          have HM := Lib.hid (show RowM (.slice A' l.length c') wr from ⟨l, trow_own HO.out, small_of HS.out, h65⟩)
          rw [h65] at HM
          have hcm : 65 ≤ c' := by
            obtain ⟨l0, h1, _, h3⟩ := HM.out
            obtain ⟨_, _, e, h4, _⟩ := h1
            injection e with e1 e2 e3
            omega
          rw [h65]
          have HB3 := Lib.hid (step HB2.out HBW.out)
          clear HO HBW HB2 HS hlk h65 hk hki
          generalize hAM : A' = AM at *
          generalize hCM : c' = cM at *
          clear hAM hCM
          go_upto_region 13 with (fail)
          refine Inv.wp_region_inv (by kernel_rfl) (fun w' => KeepW wr wr.heap.size w') (fun i v w' => R13 (kinds13.getD i 9) v w') (Inv.formB_spec (by kernel_rfl)) (KeepW.start (Nat.le_refl _)).drew (Inv.Each.steps ?_ rfl) (fun f w3 hC hR => ?_)
          · clear HP HT HB3
            refine ⟨?_, ?_, ?_, ?_, ?_, ?_, ?_, ?_, ?_, ?_, ?_, ?_, ?_, ?_, ?_, ?_, ?_, ?_, ?_, ?_, ?_, ?_, ?_, ?_, ?_, ?_, ?_, ?_, ?_, trivial⟩
            · refine ⟨fun a w' hC hdep hfix => ?_⟩
              refine ⟨.agg #[.string ⟨#[120]⟩, .slice none 0 0, .string ⟨#[]⟩], w', ?_, hC, DrvV.mk (TxK.lit _ (by decide)) (RowTs.nil _) (TxK.lit _ (by decide)), fun _ _ h => h⟩
              kernel_rfl
            · refine ⟨fun a w' hC hdep hfix => ⟨.string zero, w', ?_, hC, ⟨zero, rfl, by omega⟩, fun _ _ h => h⟩⟩
              have e1 : a.eval (.tmp 1) = .string zero := (hfix 1 (by decide)).trans rfl
              unfold execOp
              dsimp only
              rw [e1]
              rfl
            · refine ⟨fun a w' hC hdep hfix => ⟨.string one, w', ?_, hC, ⟨one, rfl, by omega⟩, fun _ _ h => h⟩⟩
              have e1 : a.eval (.tmp 2) = .string one := (hfix 2 (by decide)).trans rfl
              unfold execOp
              dsimp only
              rw [e1]
              rfl
            · refine ⟨fun a w' hC hdep hfix => ?_⟩
              obtain ⟨s1, e1, z1⟩ : TxK (a.eval (.tmp 55)) := hdep 1 _ 55 rfl rfl (by kernel_rfl)
              obtain ⟨s2, e2, z2⟩ : TxK (a.eval (.tmp 56)) := hdep 2 _ 56 rfl rfl (by kernel_rfl)
              refine ⟨.slice (some ⟨w'.heap.size, 0, none⟩) 2 2, w'.alloc (.cells #[.string s1, .string s2] 9), ?_, hC.alloc _, row2 ⟨s1, rfl, z1⟩ ⟨s2, rfl, z2⟩, fun _ _ h => R13_below h ((Below.refl _ _).alloc (Nat.le_refl _) _)⟩
              unfold execOp
              simp only [List.map_toArray, List.map_cons, List.map_nil, e1, e2]
              kernel_rfl
            · refine ⟨fun a w' hC hdep hfix => ?_⟩
              have hr1 : RowTs (a.eval (.tmp 57)) w' := hdep 3 _ 57 rfl rfl (by kernel_rfl)
              obtain ⟨A1, n1, c1, e1⟩ := hr1.form
              rw [e1] at hr1
              refine ⟨.agg #[.string ⟨#[120]⟩, .slice A1 n1 c1, .string ⟨#[100, 105, 114, 32, 34, 97, 34, 10]⟩], w', ?_, hC, DrvV.mk (TxK.lit _ (by decide)) hr1 (TxK.lit _ (by decide)), fun _ _ h => h⟩
              unfold execOp
              simp only [List.map_toArray, List.map_cons, List.map_nil, e1]
              kernel_rfl
            · refine ⟨fun a w' hC hdep hfix => ⟨.string one, w', ?_, hC, ⟨one, rfl, by omega⟩, fun _ _ h => h⟩⟩
              have e1 : a.eval (.tmp 2) = .string one := (hfix 2 (by decide)).trans rfl
              unfold execOp
              dsimp only
              rw [e1]
              rfl
            · refine ⟨fun a w' hC hdep hfix => ⟨.string zero, w', ?_, hC, ⟨zero, rfl, by omega⟩, fun _ _ h => h⟩⟩
              have e1 : a.eval (.tmp 1) = .string zero := (hfix 1 (by decide)).trans rfl
              unfold execOp
              dsimp only
              rw [e1]
              rfl
            · refine ⟨fun a w' hC hdep hfix => ?_⟩
              obtain ⟨s1, e1, z1⟩ : TxK (a.eval (.tmp 59)) := hdep 5 _ 59 rfl rfl (by kernel_rfl)
              obtain ⟨s2, e2, z2⟩ : TxK (a.eval (.tmp 60)) := hdep 6 _ 60 rfl rfl (by kernel_rfl)
              refine ⟨.slice (some ⟨w'.heap.size, 0, none⟩) 2 2, w'.alloc (.cells #[.string s1, .string s2] 9), ?_, hC.alloc _, row2 ⟨s1, rfl, z1⟩ ⟨s2, rfl, z2⟩, fun _ _ h => R13_below h ((Below.refl _ _).alloc (Nat.le_refl _) _)⟩
              unfold execOp
              simp only [List.map_toArray, List.map_cons, List.map_nil, e1, e2]
              kernel_rfl
            · refine ⟨fun a w' hC hdep hfix => ?_⟩
              have hr1 : RowTs (a.eval (.tmp 61)) w' := hdep 7 _ 61 rfl rfl (by kernel_rfl)
              obtain ⟨A1, n1, c1, e1⟩ := hr1.form
              rw [e1] at hr1
              refine ⟨.agg #[.string ⟨#[120]⟩, .slice A1 n1 c1, .string ⟨#[]⟩], w', ?_, hC, DrvV.mk (TxK.lit _ (by decide)) hr1 (TxK.lit _ (by decide)), fun _ _ h => h⟩
              unfold execOp
              simp only [List.map_toArray, List.map_cons, List.map_nil, e1]
              kernel_rfl
            · refine ⟨fun a w' hC hdep hfix => ⟨.string zero, w', ?_, hC, ⟨zero, rfl, by omega⟩, fun _ _ h => h⟩⟩
              have e1 : a.eval (.tmp 1) = .string zero := (hfix 1 (by decide)).trans rfl
              unfold execOp
              dsimp only
              rw [e1]
              rfl
            · refine ⟨fun a w' hC hdep hfix => ⟨.string zero, w', ?_, hC, ⟨zero, rfl, by omega⟩, fun _ _ h => h⟩⟩
              have e1 : a.eval (.tmp 1) = .string zero := (hfix 1 (by decide)).trans rfl
              unfold execOp
              dsimp only
              rw [e1]
              rfl
            · refine ⟨fun a w' hC hdep hfix => ?_⟩
              obtain ⟨s1, e1, z1⟩ : TxK (a.eval (.tmp 63)) := hdep 9 _ 63 rfl rfl (by kernel_rfl)
              obtain ⟨s2, e2, z2⟩ : TxK (a.eval (.tmp 64)) := hdep 10 _ 64 rfl rfl (by kernel_rfl)
              refine ⟨.slice (some ⟨w'.heap.size, 0, none⟩) 2 2, w'.alloc (.cells #[.string s1, .string s2] 9), ?_, hC.alloc _, row2 ⟨s1, rfl, z1⟩ ⟨s2, rfl, z2⟩, fun _ _ h => R13_below h ((Below.refl _ _).alloc (Nat.le_refl _) _)⟩
              unfold execOp
              simp only [List.map_toArray, List.map_cons, List.map_nil, e1, e2]
              kernel_rfl
            · refine ⟨fun a w' hC hdep hfix => ?_⟩
              have hr1 : RowTs (a.eval (.tmp 65)) w' := hdep 11 _ 65 rfl rfl (by kernel_rfl)
              obtain ⟨A1, n1, c1, e1⟩ := hr1.form
              rw [e1] at hr1
              refine ⟨.agg #[.string ⟨#[120]⟩, .slice A1 n1 c1, .string ⟨#[]⟩], w', ?_, hC, DrvV.mk (TxK.lit _ (by decide)) hr1 (TxK.lit _ (by decide)), fun _ _ h => h⟩
              unfold execOp
              simp only [List.map_toArray, List.map_cons, List.map_nil, e1]
              kernel_rfl
            · refine ⟨fun a w' hC hdep hfix => ⟨.slice (some ⟨w'.heap.size, 0, none⟩) 1 1, w'.alloc (.cells #[.string ⟨#[97]⟩] 9), ?_, hC.alloc _, row1 (TxK.lit _ (by decide)), fun _ _ h => R13_below h ((Below.refl _ _).alloc (Nat.le_refl _) _)⟩⟩
              kernel_rfl
            · refine ⟨fun a w' hC hdep hfix => ?_⟩
              have hr1 : RowTs (a.eval (.tmp 67)) w' := hdep 13 _ 67 rfl rfl (by kernel_rfl)
              obtain ⟨A1, n1, c1, e1⟩ := hr1.form
              rw [e1] at hr1
              refine ⟨.agg #[.string ⟨#[120]⟩, .slice A1 n1 c1, .string ⟨#[]⟩], w', ?_, hC, DrvV.mk (TxK.lit _ (by decide)) hr1 (TxK.lit _ (by decide)), fun _ _ h => h⟩
              unfold execOp
              simp only [List.map_toArray, List.map_cons, List.map_nil, e1]
              kernel_rfl
            · refine ⟨fun a w' hC hdep hfix => ?_⟩
              refine ⟨.agg #[.string ⟨#[]⟩, .slice none 0 0, .string ⟨#[]⟩], w', ?_, hC, DrvV.mk (TxK.lit _ (by decide)) (RowTs.nil _) (TxK.lit _ (by decide)), fun _ _ h => h⟩
              kernel_rfl
            · refine ⟨fun a w' hC hdep hfix => ⟨.string s, w', ?_, hC, ⟨s, rfl, hs61⟩, fun _ _ h => h⟩⟩
              have e1 : a.eval (.tmp 3) = .string s := (hfix 3 (by decide)).trans rfl
              unfold execOp
              dsimp only
              rw [e1]
              rfl
            · refine ⟨fun a w' hC hdep hfix => ?_⟩
              obtain ⟨s0, e0, z0⟩ : TxL (a.eval (.tmp 70)) := hdep 16 _ 70 rfl rfl (by kernel_rfl)
              refine ⟨.agg #[.string s0, .slice none 0 0, .string ⟨#[]⟩], w', ?_, hC, DrvV.mk ⟨s0, rfl, by omega⟩ (RowTs.nil _) (TxK.lit _ (by decide)), fun _ _ h => h⟩
              unfold execOp
              simp only [List.map_toArray, List.map_cons, List.map_nil, e0]
              kernel_rfl
            · refine ⟨fun a w' hC hdep hfix => ⟨.string s, w', ?_, hC, ⟨s, rfl, hs61⟩, fun _ _ h => h⟩⟩
              have e1 : a.eval (.tmp 3) = .string s := (hfix 3 (by decide)).trans rfl
              unfold execOp
              dsimp only
              rw [e1]
              rfl
            · refine ⟨fun a w' hC hdep hfix => ?_⟩
              obtain ⟨s1, e1, z1⟩ : TxL (a.eval (.tmp 72)) := hdep 18 _ 72 rfl rfl (by kernel_rfl)
              refine ⟨.string (s1.extract 0 60), w', ?_, hC, ⟨_, rfl, by simp [ByteArray.size_extract]; omega⟩, fun _ _ h => h⟩
              unfold execOp
              dsimp only
              rw [e1]
              exact slice60 s1 z1 w'
            · refine ⟨fun a w' hC hdep hfix => ?_⟩
              obtain ⟨s0, e0, z0⟩ : TxK (a.eval (.tmp 73)) := hdep 19 _ 73 rfl rfl (by kernel_rfl)
              refine ⟨.agg #[.string s0, .slice none 0 0, .string ⟨#[]⟩], w', ?_, hC, DrvV.mk ⟨s0, rfl, by omega⟩ (RowTs.nil _) (TxK.lit _ (by decide)), fun _ _ h => h⟩
              unfold execOp
              simp only [List.map_toArray, List.map_cons, List.map_nil, e0]
              kernel_rfl
            · refine ⟨fun a w' hC hdep hfix => ⟨.slice AM 65 cM, w', ?_, hC, HM.out.below hC.1, fun _ _ h => h⟩⟩
              have e1 : a.eval (.tmp 5) = .slice AM 65 cM := (hfix 5 (by decide)).trans rfl
              unfold execOp
              dsimp only
              rw [e1]
              rfl
            · refine ⟨fun a w' hC hdep hfix => ?_⟩
              have hr1 : RowM (a.eval (.tmp 75)) w' := hdep 21 _ 75 rfl rfl (by kernel_rfl)
              have hr1 := hr1.rowTs
              obtain ⟨A1, n1, c1, e1⟩ := hr1.form
              rw [e1] at hr1
              refine ⟨.agg #[.string ⟨#[120]⟩, .slice A1 n1 c1, .string ⟨#[]⟩], w', ?_, hC, DrvV.mk (TxK.lit _ (by decide)) hr1 (TxK.lit _ (by decide)), fun _ _ h => h⟩
              unfold execOp
              simp only [List.map_toArray, List.map_cons, List.map_nil, e1]
              kernel_rfl
            · refine ⟨fun a w' hC hdep hfix => ⟨.slice AM 65 cM, w', ?_, hC, HM.out.below hC.1, fun _ _ h => h⟩⟩
              have e1 : a.eval (.tmp 5) = .slice AM 65 cM := (hfix 5 (by decide)).trans rfl
              unfold execOp
              dsimp only
              rw [e1]
              rfl
            · refine ⟨fun a w' hC hdep hfix => ?_⟩
              have hm : RowM (a.eval (.tmp 77)) w' := hdep 23 _ 77 rfl rfl (by kernel_rfl)
              obtain ⟨A1, c1, e1, z1⟩ := hm.form
              rw [e1] at hm
              refine ⟨.slice (A1.map (·.add 1)) 64 (c1 - 1), w', ?_, hC, hm.tail, fun _ _ h => h⟩
              unfold execOp
              dsimp only
              rw [e1]
              exact slice1 A1 c1 z1 w'
            · refine ⟨fun a w' hC hdep hfix => ?_⟩
              have hr1 : RowTs (a.eval (.tmp 78)) w' := hdep 24 _ 78 rfl rfl (by kernel_rfl)
              obtain ⟨A1, n1, c1, e1⟩ := hr1.form
              rw [e1] at hr1
              refine ⟨.agg #[.string ⟨#[120]⟩, .slice A1 n1 c1, .string ⟨#[]⟩], w', ?_, hC, DrvV.mk (TxK.lit _ (by decide)) hr1 (TxK.lit _ (by decide)), fun _ _ h => h⟩
              unfold execOp
              simp only [List.map_toArray, List.map_cons, List.map_nil, e1]
              kernel_rfl
            · refine ⟨fun a w' hC hdep hfix => ?_⟩
              refine ⟨.agg #[.string ⟨#[46, 120]⟩, .slice none 0 0, .string ⟨#[]⟩], w', ?_, hC, DrvV.mk (TxK.lit _ (by decide)) (RowTs.nil _) (TxK.lit _ (by decide)), fun _ _ h => h⟩
              kernel_rfl
            · refine ⟨fun a w' hC hdep hfix => ?_⟩
              obtain ⟨x0, e0, k0⟩ : DrvV (a.eval (.tmp 54)) w' := hdep 0 _ 54 rfl rfl (by kernel_rfl)
              obtain ⟨x1, e1, k1⟩ : DrvV (a.eval (.tmp 58)) w' := hdep 4 _ 58 rfl rfl (by kernel_rfl)
              obtain ⟨x2, e2, k2⟩ : DrvV (a.eval (.tmp 62)) w' := hdep 8 _ 62 rfl rfl (by kernel_rfl)
              obtain ⟨x3, e3, k3⟩ : DrvV (a.eval (.tmp 66)) w' := hdep 12 _ 66 rfl rfl (by kernel_rfl)
              obtain ⟨x4, e4, k4⟩ : DrvV (a.eval (.tmp 68)) w' := hdep 14 _ 68 rfl rfl (by kernel_rfl)
              obtain ⟨x5, e5, k5⟩ : DrvV (a.eval (.tmp 69)) w' := hdep 15 _ 69 rfl rfl (by kernel_rfl)
              obtain ⟨x6, e6, k6⟩ : DrvV (a.eval (.tmp 71)) w' := hdep 17 _ 71 rfl rfl (by kernel_rfl)
              obtain ⟨x7, e7, k7⟩ : DrvV (a.eval (.tmp 74)) w' := hdep 20 _ 74 rfl rfl (by kernel_rfl)
              obtain ⟨x8, e8, k8⟩ : DrvV (a.eval (.tmp 76)) w' := hdep 22 _ 76 rfl rfl (by kernel_rfl)
              obtain ⟨x9, e9, k9⟩ : DrvV (a.eval (.tmp 79)) w' := hdep 25 _ 79 rfl rfl (by kernel_rfl)
              obtain ⟨x10, e10, k10⟩ : DrvV (a.eval (.tmp 80)) w' := hdep 26 _ 80 rfl rfl (by kernel_rfl)
              have hok : ∀ x ∈ [x0, x1, x2, x3, x4, x5, x6, x7, x8, x9, x10], D3Ok w' x := by
                intro x hx
                simp only [List.mem_cons, List.not_mem_nil, or_false] at hx
                rcases hx with rfl | rfl | rfl | rfl | rfl | rfl | rfl | rfl | rfl | rfl | rfl <;> assumption
              have hba : Below w'.heap.size w' (w'.alloc (.cells #[.string x0.nm, x0.iv, .string x0.rc, .string x1.nm, x1.iv, .string x1.rc, .string x2.nm, x2.iv, .string x2.rc, .string x3.nm, x3.iv, .string x3.rc, .string x4.nm, x4.iv, .string x4.rc, .string x5.nm, x5.iv, .string x5.rc, .string x6.nm, x6.iv, .string x6.rc, .string x7.nm, x7.iv, .string x7.rc, .string x8.nm, x8.iv, .string x8.rc, .string x9.nm, x9.iv, .string x9.rc, .string x10.nm, x10.iv, .string x10.rc] 28)) := (Below.refl _ _).alloc (Nat.le_refl _) _
              refine ⟨.slice (some ⟨w'.heap.size, 0, none⟩) 11 11, w'.alloc (.cells #[.string x0.nm, x0.iv, .string x0.rc, .string x1.nm, x1.iv, .string x1.rc, .string x2.nm, x2.iv, .string x2.rc, .string x3.nm, x3.iv, .string x3.rc, .string x4.nm, x4.iv, .string x4.rc, .string x5.nm, x5.iv, .string x5.rc, .string x6.nm, x6.iv, .string x6.rc, .string x7.nm, x7.iv, .string x7.rc, .string x8.nm, x8.iv, .string x8.rc, .string x9.nm, x9.iv, .string x9.rc, .string x10.nm, x10.iv, .string x10.rc] 28), ?_, hC.alloc _, drvs_blk (xs := [x0, x1, x2, x3, x4, x5, x6, x7, x8, x9, x10]) (heap_alloc_new w' _) rfl rfl (fun x hx => (hok x hx).below hba), fun _ _ h => R13_below h hba⟩
              unfold execOp
              simp only [List.map_toArray, List.map_cons, List.map_nil, e0, e1, e2, e3, e4, e5, e6, e7, e8, e9, e10]
              kernel_rfl
            · refine ⟨fun a w' hC hdep hfix => ⟨a.eval (.tmp 81), w', rfl, hC, (hdep 27 _ 81 rfl rfl (by kernel_rfl) : DrvsV (a.eval (.tmp 81)) w'), fun _ _ h => h⟩⟩
          have hv7 : DrvsV (f 7) w3 := hR 28 _ 7 rfl rfl
          simp only [Inv.dsts, List.filterMap_cons, List.filterMap_nil, List.foldl_cons, List.foldl_nil, Act.put, List.setIfInBounds_toArray, List.set_cons_succ, List.set_cons_zero]
          obtain ⟨ad, x, hf7, hadb, hx⟩ := hv7
          rw [hf7]
          have hcells : ∀ (i : Nat), i < 11 → w3.cell? (ad.add (i * 3)) = some (.string (x i).nm) ∧ w3.cell? ((ad.add (i * 3)).add 1) = some (x i).iv ∧ w3.cell? ((ad.add (i * 3)).add 2) = some (.string (x i).rc) := fun i hi => by
            have h := (hx i hi).2
            have h0 := h 0 _ rfl
            rw [add_zero] at h0
            exact ⟨h0, h 1 _ rfl, h 2 _ rfl⟩
          have HXO := Lib.hid (fun (i : Nat) (hi : i < 11) => (hx i hi).1)
          have HCE := Lib.hid hcells
          have HB4 := Lib.hid (step HB3.out hC.1)
          have HADB := Lib.hid hadb
          clear hx hcells hadb HB3 hC hR hf7 HM hcm hs61 hz34 ho34
          go_wp2
          go_loopw [8] (fun iv wr => ∃ (i : Nat), i ≤ 11 ∧ iv = .int .i64 (i : Int) ∧ Hid (KeepW w3 w3.heap.size wr)) (fun iv _ => 11 - (intOf iv).toNat)
          case atStart => exact ⟨0, by omega, rfl, Lib.hid (KeepW.start (Nat.le_refl _))⟩
          case round =>
            obtain ⟨i, hi, rfl, HK⟩ := hrel
            by_cases hlt : i < 11
            · have hii : (i : Int) < 11 := by omega
              have HX := Lib.hid (HXO.out i hlt)
              have HXC := Lib.hid (show ∀ (wx : World), KeepW w3 w3.heap.size wx → wx.cell? (ad.add (i * 3)) = some (.string (x i).nm) ∧ wx.cell? ⟨(ad.add (i * 3)).block, (ad.add (i * 3)).off + 1, none⟩ = some (x i).iv ∧ wx.cell? ⟨(ad.add (i * 3)).block, (ad.add (i * 3)).off + 2, none⟩ = some (.string (x i).rc) from fun wx h => by
                obtain ⟨h0, h1, h2⟩ := HCE.out i hlt
                exact ⟨(h.1.cell (by rw [addB]; exact HADB.out)).trans h0, (h.1.cell (by show (ad.add (i * 3)).block < _; rw [addB]; exact HADB.out)).trans h1, (h.1.cell (by show (ad.add (i * 3)).block < _; rw [addB]; exact HADB.out)).trans h2⟩)
              generalize x i = xi at *
              obtain ⟨nm, iv, ins, rc⟩ := xi
              obtain ⟨hr1, hr2, hr3, hr4⟩ := HX.out
              dsimp only at hr1 hr2 hr3 hr4 HXC
              obtain ⟨hc0, hc1, hc2⟩ := HXC.out _ HK.out
              have HIV := Lib.hid hr1
              obtain ⟨Ai, ci, rfl, _, _⟩ := RdS.form hr1
              have HPT := Lib.hid (fun (wx : World) (h : KeepW w3 w3.heap.size wx) => drvPut_walk nm _ ins rc wx (HT.out _ (step HB4.out h.1)) (RdS.below HIV.out h.1) hr2 hr3 hr4)
              have HBK := Lib.hid (fun (wx : World) (h : KeepW w3 w3.heap.size wx) => drvBack_walk nm _ ins rc (fun _ => 0) none 0 0 wx (HT.out _ (step HB4.out h.1)) (RdS.below HIV.out h.1) hr2 hr3 hr4 (fun _ => by decide) (Nat.le_refl _) (by decide) (fun h0 => by omega) (fun _ => rfl))
              clear HX hr1 hr2 hr3 hr4
              go_wp2_with fail
              refine (HPT.out _ HK.out).mono ?_
              rintro e w4 ⟨rfl, hb4⟩
              have HK4 := Lib.hid (HK.out.step hb4)
              clear hb4 hc0 hc1 hc2
              obtain ⟨hc0, hc1, hc2⟩ := HXC.out _ HK4.out
              go_wp2_with fail
              refine (HBK.out _ HK4.out).mono ?_
              rintro e w5 ⟨rfl, hb5⟩
              have HK5 := Lib.hid (HK4.out.step hb5)
              clear hb5 hc0 hc1 hc2
              go_wp2
              go_roundw
              case rel => exact ⟨i + 1, by omega, by go_num, HK5⟩
              case measure => simp [intOf]; omega
            · have hii : ¬ (i : Int) < 11 := by omega
              have HX := Lib.hid (HXO.out 1 (by omega))
              obtain ⟨h0, h1, h2⟩ := HCE.out 1 (by omega)
              have hc0 : wr.cell? ⟨ad.block, ad.off + 3, none⟩ = some (.string (x 1).nm) := (HK.out.1.cell (by exact HADB.out)).trans h0
              have hc1 : wr.cell? ⟨ad.block, ad.off + 3 + 1, none⟩ = some (x 1).iv := (HK.out.1.cell (by exact HADB.out)).trans h1
              have hc2 : wr.cell? ⟨ad.block, ad.off + 3 + 2, none⟩ = some (.string (x 1).rc) := (HK.out.1.cell (by exact HADB.out)).trans h2
              clear h0 h1 h2 hlt hi
              generalize x 1 = xi at *
              clear HXO HCE HADB
              obtain ⟨nm, iv, ins, rc⟩ := xi
              obtain ⟨hr1, hr2, hr3, hr4⟩ := HX.out
              dsimp only at hr1 hr2 hr3 hr4 hc0 hc1 hc2
              have hr1' := RdS.below hr1 HK.out.1
              obtain ⟨Ai, ci, rfl, _, _⟩ := RdS.form hr1'
              have HRP := Lib.hid (refPut_any nm _ ins rc wr hr1' hr2 hr3 hr4)
              have HLN := Lib.hid (putR_len nm ins rc)
              have HB5 := Lib.hid (step HB4.out HK.out.1)
              generalize putR nm ins rc = l at *
              generalize putE nm ins rc = ec at *
              clear HX hr1 hr2 hr3 hr4 hr1' HK HB4
              go_wp2_with fail
              refine HRP.out.mono ?_
              intro e w4 h4
              obtain ⟨B, cap, rfl, hy4, hb4⟩ := bytes_is h4
              have HYo := Lib.hid hy4
              have HB6 := Lib.hid (step HB5.out hb4)
              obtain ⟨_, _, ev, hlc, hlm, _, _⟩ := id hy4
              injection ev with ev1 ev2 ev3
              subst ev1
              subst ev3
              clear h4 hy4 hb4 HRP HB5 ev2 hc0 hc1 hc2
              have HG := Lib.hid (fun (wx : World) (h : KeepW w4 w4.heap.size wx) (v : Value) (l' : List UInt8) (hy : Byt wx v l') => drvGet_at v l' wx (HT.out _ (step HB6.out h.1)) hy)
              have HBK := Lib.hid (fun (wx : World) (h : KeepW w4 w4.heap.size wx) (v : Value) (l' : List UInt8) (hy : Byt wx v l') => drvBack_at ⟨#[]⟩ (.slice none 0 0) [] ⟨#[]⟩ v l' wx (HT.out _ (step HB6.out h.1)) (RdS.nil _ _) (fun s hs => by cases hs) (by decide) (by decide) hy)
              go_wp2
              go_loopw [11] (fun iv wr => ∃ (i : Nat), i ≤ l.length ∧ iv = .int .i64 (i : Int) ∧ Hid (KeepW w4 w4.heap.size wr)) (fun iv _ => l.length - (intOf iv).toNat)
              case atStart => exact ⟨0, by omega, rfl, Lib.hid (KeepW.start (Nat.le_refl _))⟩
              case round =>
                obtain ⟨i, hi, rfl, HK⟩ := hrel
                by_cases hlt : i < l.length
                · have hii : (i : Int) < (l.length : Int) := by omega
                  have HY := Lib.hid (HYo.out.below HK.out.1)
                  have hsl1 := bslice1 B l.length cap i (by omega)
                  have hsl2 := bslice2 B l.length cap hlc
                  have hln := HLN.out
                  go_upto_region 23 with (fail)
                  refine Inv.wp_region_invW (by kernel_rfl) (fun w' => KeepW wr wr.heap.size w') (fun k v w' => R23 B cap l i (kinds23.getD k 9) v w') (Inv.formW_spec (by kernel_rfl)) (KeepW.start (Nat.le_refl _)).drew (Inv.Each.steps ?_ rfl) (fun f w5 hC hR => ?_)
                  · clear HP
                    have HG1 := Lib.hid (fun (wx : World) (h : KeepW wr wr.heap.size wx) => HG.out wx ⟨step HK.out.1 h.1, Nat.le_trans HK.out.2 h.2⟩ _ _ ((HY.out.below h.1).cut i hi))
                    have HG2 := Lib.hid (fun (wx : World) (h : KeepW wr wr.heap.size wx) => HG.out wx ⟨step HK.out.1 h.1, Nat.le_trans HK.out.2 h.2⟩)
                    refine ⟨?_, ?_, ?_, ?_, ?_, ?_, ?_, ?_, ?_, ?_, ?_, ?_, ?_, ?_, ?_, ?_, ?_, ?_, ?_, trivial⟩
                    · refine Inv.StepW.of_run rfl (fun _ _ _ => rfl) ⟨fun a w' hC hdep hfix => ?_⟩
                      have e0 : a.eval (.tmp 9) = .slice B l.length cap := (hfix 9 (by decide)).trans rfl
                      refine ⟨.slice B l.length cap, w', ?_, hC, rfl, fun _ _ h => h⟩
                      unfold execOp
                      simp only [List.map_toArray, List.map_cons, List.map_nil, e0]
                      kernel_rfl
                    · refine Inv.StepW.of_run rfl (fun _ _ _ => rfl) ⟨fun a w' hC hdep hfix => ?_⟩
                      have e0 : a.eval (.tmp 11) = .int .i64 (i : Int) := (hfix 11 (by decide)).trans rfl
                      refine ⟨.int .i64 (i : Int), w', ?_, hC, rfl, fun _ _ h => h⟩
                      unfold execOp
                      simp only [List.map_toArray, List.map_cons, List.map_nil, e0]
                      kernel_rfl
                    · refine Inv.StepW.of_run rfl (fun _ _ _ => rfl) ⟨fun a w' hC hdep hfix => ?_⟩
                      have e0 : a.eval (.tmp 115) = .slice B l.length cap := hdep 0 _ 115 rfl rfl (by kernel_rfl)
                      have e1 : a.eval (.tmp 116) = .int .i64 (i : Int) := hdep 1 _ 116 rfl rfl (by kernel_rfl)
                      refine ⟨.slice B i cap, w', ?_, hC, rfl, fun _ _ h => h⟩
                      unfold execOp
                      simp only [Option.map_some, Option.map_none, e0, e1]
                      exact hsl1 w'
                    · refine Inv.StepW.of_call (f := 8) rfl (fun _ _ _ => rfl) (fun a w' hC hdep hfix => ?_)
                      have e0 : a.eval (.tmp 117) = .slice B i cap := hdep 2 _ 117 rfl rfl (by kernel_rfl)
                      refine ⟨#[.slice B i cap], w', ?_, (HG1.out w' hC).mono ?_⟩
                      · simp only [execOp, resolve, List.map_toArray, List.map_cons, List.map_nil, e0]
                        kernel_rfl
                      · rintro e w2 ⟨rfl, hb2⟩
                        exact ⟨_, rfl, hC.step hb2, rfl, fun _ _ h => R23_below h hb2⟩
                    · refine Inv.StepW.of_run rfl (fun _ _ _ => rfl) ⟨fun a w' hC hdep hfix => ?_⟩
                      have e0 : a.eval (.tmp 118) = .bool true := hdep 3 _ 118 rfl rfl (by kernel_rfl)
                      refine ⟨.bool false, w', ?_, hC, rfl, fun _ _ h => h⟩
                      unfold execOp
                      simp only [List.map_toArray, List.map_cons, List.map_nil, e0]
                      kernel_rfl
                    · refine Inv.StepW.of_run rfl (fun _ _ _ => rfl) ⟨fun a w' hC hdep hfix => ?_⟩
                      have e0 : a.eval (.tmp 119) = .bool false := hdep 4 _ 119 rfl rfl (by kernel_rfl)
                      refine ⟨.bool false, w', ?_, hC, rfl, fun _ _ h => h⟩
                      unfold execOp
                      simp only [List.map_toArray, List.map_cons, List.map_nil, e0]
                      kernel_rfl
                    · refine Inv.StepW.of_run rfl (fun a w' hdep => (wanted_of (j := 5) (b := false) (d := 120) rfl rfl rfl (hdep 5 _ 120 rfl rfl (by kernel_rfl)))) ⟨fun a w' hC hdep hfix => ?_⟩
                      have e0 : a.eval (.tmp 9) = .slice B l.length cap := (hfix 9 (by decide)).trans rfl
                      refine ⟨.slice B l.length cap, w', ?_, hC, rfl, fun _ _ h => h⟩
                      unfold execOp
                      simp only [List.map_toArray, List.map_cons, List.map_nil, e0]
                      kernel_rfl
                    · refine Inv.StepW.of_run rfl (fun a w' hdep => (wanted_of (j := 5) (b := false) (d := 120) rfl rfl rfl (hdep 5 _ 120 rfl rfl (by kernel_rfl)))) ⟨fun a w' hC hdep hfix => ?_⟩
                      have e0 : a.eval (.tmp 9) = .slice B l.length cap := (hfix 9 (by decide)).trans rfl
                      refine ⟨.slice B l.length cap, w', ?_, hC, rfl, fun _ _ h => h⟩
                      unfold execOp
                      simp only [List.map_toArray, List.map_cons, List.map_nil, e0]
                      kernel_rfl
                    · refine Inv.StepW.of_run rfl (fun a w' hdep => (wanted_of (j := 5) (b := false) (d := 120) rfl rfl rfl (hdep 5 _ 120 rfl rfl (by kernel_rfl)))) ⟨fun a w' hC hdep hfix => ?_⟩
                      have e0 : a.eval (.tmp 122) = .slice B l.length cap := hdep 7 _ 122 rfl rfl (by kernel_rfl)
                      refine ⟨.int .i64 (l.length : Int), w', ?_, hC, rfl, fun _ _ h => h⟩
                      simp only [execOp, resolve, List.map_toArray, List.map_cons, List.map_nil, e0]
                      kernel_rfl
                    · refine Inv.StepW.of_run rfl (fun a w' hdep => (wanted_of (j := 5) (b := false) (d := 120) rfl rfl rfl (hdep 5 _ 120 rfl rfl (by kernel_rfl)))) ⟨fun a w' hC hdep hfix => ?_⟩
                      have e0 : a.eval (.tmp 9) = .slice B l.length cap := (hfix 9 (by decide)).trans rfl
                      refine ⟨.slice B l.length cap, w', ?_, hC, rfl, fun _ _ h => h⟩
                      unfold execOp
                      simp only [List.map_toArray, List.map_cons, List.map_nil, e0]
                      kernel_rfl
                    · refine Inv.StepW.of_run rfl (fun a w' hdep => (wanted_of (j := 5) (b := false) (d := 120) rfl rfl rfl (hdep 5 _ 120 rfl rfl (by kernel_rfl)))) ⟨fun a w' hC hdep hfix => ?_⟩
                      have e0 : a.eval (.tmp 124) = .slice B l.length cap := hdep 9 _ 124 rfl rfl (by kernel_rfl)
                      refine ⟨.int .i64 (l.length : Int), w', ?_, hC, rfl, fun _ _ h => h⟩
                      simp only [execOp, resolve, List.map_toArray, List.map_cons, List.map_nil, e0]
                      kernel_rfl
                    · refine Inv.StepW.of_run rfl (fun a w' hdep => (wanted_of (j := 5) (b := false) (d := 120) rfl rfl rfl (hdep 5 _ 120 rfl rfl (by kernel_rfl)))) ⟨fun a w' hC hdep hfix => ?_⟩
                      have e0 : a.eval (.tmp 121) = .slice B l.length cap := hdep 6 _ 121 rfl rfl (by kernel_rfl)
                      have e1 : a.eval (.tmp 123) = .int .i64 (l.length : Int) := hdep 8 _ 123 rfl rfl (by kernel_rfl)
                      have e2 : a.eval (.tmp 125) = .int .i64 (l.length : Int) := hdep 10 _ 125 rfl rfl (by kernel_rfl)
                      refine ⟨.slice B l.length l.length, w', ?_, hC, rfl, fun _ _ h => h⟩
                      unfold execOp
                      simp only [Option.map_some, Option.map_none, e0, e1, e2]
                      exact hsl2 w'
                    · refine Inv.StepW.of_run rfl (fun a w' hdep => (wanted_of (j := 5) (b := false) (d := 120) rfl rfl rfl (hdep 5 _ 120 rfl rfl (by kernel_rfl)))) ⟨fun a w' hC hdep hfix => ?_⟩
                      have e0 : a.eval (.tmp 9) = .slice B l.length cap := (hfix 9 (by decide)).trans rfl
                      refine ⟨.slice B l.length cap, w', ?_, hC, rfl, fun _ _ h => h⟩
                      unfold execOp
                      simp only [List.map_toArray, List.map_cons, List.map_nil, e0]
                      kernel_rfl
                    · refine Inv.StepW.of_run rfl (fun a w' hdep => (wanted_of (j := 5) (b := false) (d := 120) rfl rfl rfl (hdep 5 _ 120 rfl rfl (by kernel_rfl)))) ⟨fun a w' hC hdep hfix => ?_⟩
                      have e0 : a.eval (.tmp 11) = .int .i64 (i : Int) := (hfix 11 (by decide)).trans rfl
                      refine ⟨.int .i64 (i : Int), w', ?_, hC, rfl, fun _ _ h => h⟩
                      unfold execOp
                      simp only [List.map_toArray, List.map_cons, List.map_nil, e0]
                      kernel_rfl
                    · refine Inv.StepW.of_run rfl (fun a w' hdep => (wanted_of (j := 5) (b := false) (d := 120) rfl rfl rfl (hdep 5 _ 120 rfl rfl (by kernel_rfl)))) ⟨fun a w' hC hdep hfix => ?_⟩
                      have e0 : a.eval (.tmp 127) = .slice B l.length cap := hdep 12 _ 127 rfl rfl (by kernel_rfl)
                      have e1 : a.eval (.tmp 128) = .int .i64 (i : Int) := hdep 13 _ 128 rfl rfl (by kernel_rfl)
                      refine ⟨.slice B i cap, w', ?_, hC, rfl, fun _ _ h => h⟩
                      unfold execOp
                      simp only [Option.map_some, Option.map_none, e0, e1]
                      exact hsl1 w'
                    · refine Inv.StepW.of_run rfl (fun a w' hdep => (wanted_of (j := 5) (b := false) (d := 120) rfl rfl rfl (hdep 5 _ 120 rfl rfl (by kernel_rfl)))) ⟨fun a w' hC hdep hfix => ?_⟩
                      have e0 : a.eval (.tmp 126) = .slice B l.length l.length := hdep 11 _ 126 rfl rfl (by kernel_rfl)
                      have e1 : a.eval (.tmp 129) = .slice B i cap := hdep 14 _ 129 rfl rfl (by kernel_rfl)
                      obtain ⟨v2, w2, hr2, hy2, hb2⟩ := app_byt w' B cap l (HY.out.below hC.1) hln i hi
                      obtain ⟨A2, c2, rfl⟩ := byt_form hy2 (by rw [List.length_append, List.length_take]; omega : (l ++ l.take i).length = l.length + i)
                      refine ⟨.slice A2 (l.length + i) c2, w2, ?_, hC.step hb2, ⟨A2, c2, rfl, hy2⟩, fun _ _ h => R23_below h hb2⟩
                      simp [execOp, resolve, invoke, builtin, e0, e1, hr2, Result.andThen]
                    · refine Inv.StepW.of_call (f := 8) rfl (fun a w' hdep => (wanted_of (j := 5) (b := false) (d := 120) rfl rfl rfl (hdep 5 _ 120 rfl rfl (by kernel_rfl)))) (fun a w' hC hdep hfix => ?_)
                      obtain ⟨A7, c7, e0, hy7⟩ : ∃ A c, a.eval (.tmp 130) = .slice A (l.length + i) c ∧ Byt w' (a.eval (.tmp 130)) (l ++ l.take i) := hdep 15 _ 130 rfl rfl (by kernel_rfl)
                      rw [e0] at hy7
                      refine ⟨#[.slice A7 (l.length + i) c7], w', ?_, (HG2.out w' hC _ _ hy7).mono ?_⟩
                      · simp only [execOp, resolve, List.map_toArray, List.map_cons, List.map_nil, e0]
                        kernel_rfl
                      · rintro e w2 ⟨rfl, hb2⟩
                        exact ⟨_, rfl, hC.step hb2, rfl, fun _ _ h => R23_below h hb2⟩
                    · refine Inv.StepW.of_run rfl (fun a w' hdep => (wanted_of (j := 5) (b := false) (d := 120) rfl rfl rfl (hdep 5 _ 120 rfl rfl (by kernel_rfl)))) ⟨fun a w' hC hdep hfix => ?_⟩
                      have e0 : a.eval (.tmp 131) = .bool true := hdep 16 _ 131 rfl rfl (by kernel_rfl)
                      refine ⟨.bool false, w', ?_, hC, rfl, fun _ _ h => h⟩
                      unfold execOp
                      simp only [List.map_toArray, List.map_cons, List.map_nil, e0]
                      kernel_rfl
                    · refine Inv.StepW.of_run rfl (fun _ _ _ => rfl) ⟨fun a w' hC hdep hfix => ?_⟩
                      have e0 : a.eval (.tmp 120) = .bool false := hdep 5 _ 120 rfl rfl (by kernel_rfl)
                      have e1 : a.eval (.tmp 132) = .bool false := hdep 17 _ 132 rfl rfl (by kernel_rfl)
                      refine ⟨.bool false, w', ?_, hC, rfl, fun _ _ h => h⟩
                      unfold execOp
                      simp only [List.map_toArray, List.map_cons, List.map_nil, e0, e1]
                      kernel_rfl
                  have hv133 : f 133 = .bool false := hR 18 _ 133 rfl rfl
                  simp only [Inv.dsts, List.filterMap_cons, List.filterMap_nil, List.foldl_cons, List.foldl_nil, Act.put, List.setIfInBounds_toArray, List.set_cons_succ, List.set_cons_zero]
                  rw [hv133]
                  have HK5 := Lib.hid (show KeepW w4 w4.heap.size w5 from ⟨step HK.out.1 hC.1, Nat.le_trans HK.out.2 hC.2⟩)
                  have HL2 := Lib.hid (And.intro hlc hlm)
                  clear HY HK hsl1 hsl2 hln hC hR hv133 hlc hlm
                  have HK6 := Lib.hid (HK5.out.alloc (.cells #[.int .u8 0, .int .u8 1, .int .u8 2, .int .u8 45, .int .u8 101, .int .u8 255] 5))
                  have HG6 := Lib.hid (show (w5.alloc (.cells #[.int .u8 0, .int .u8 1, .int .u8 2, .int .u8 45, .int .u8 101, .int .u8 255] 5)).heap[w5.heap.size]? = some (.cells #[.int .u8 0, .int .u8 1, .int .u8 2, .int .u8 45, .int .u8 101, .int .u8 255] 5 (0, 0)) from heap_alloc_new _ _)
                  have HZ6 := Lib.hid (show w4.heap.size ≤ w5.heap.size from HK5.out.2)
                  go_wp2
                  generalize w5.alloc (.cells #[.int .u8 0, .int .u8 1, .int .u8 2, .int .u8 45, .int .u8 101, .int .u8 255] 5) = w6 at *
                  generalize w5.heap.size = g6 at *
                  go_loopw [136] (fun kv wr => ∃ (k : Nat), k ≤ 6 ∧ kv = .int .i64 (k : Int) ∧ Hid (KeepW w6 w6.heap.size wr)) (fun kv _ => 6 - (intOf kv).toNat)
                  case atStart => exact ⟨0, by omega, rfl, Lib.hid (KeepW.start (Nat.le_refl _))⟩
                  case round =>
                    obtain ⟨k, hk, rfl, HKr⟩ := hrel
                    by_cases hlk : k < 6
                    · have hki : (k : Int) < 6 := by omega
                      obtain ⟨c, hc, hcv, hcw⟩ : ∃ c : Int, wr.cell? ⟨g6, k, none⟩ = some (.int .u8 c) ∧ 0 ≤ c ∧ c ≤ 255 := by
                        have hg := (HKr.out.1.block _ (block_lt HG6.out)).trans HG6.out
                        rw [cell_of_row _ _ _ _ _ _ hg]
                        match k, hlk with
                        | 0, _ => exact ⟨_, rfl, by decide, by decide⟩
                        | 1, _ => exact ⟨_, rfl, by decide, by decide⟩
                        | 2, _ => exact ⟨_, rfl, by decide, by decide⟩
                        | 3, _ => exact ⟨_, rfl, by decide, by decide⟩
                        | 4, _ => exact ⟨_, rfl, by decide, by decide⟩
                        | 5, _ => exact ⟨_, rfl, by decide, by decide⟩
                      have HK7 := Lib.hid (show KeepW w4 w4.heap.size wr from ⟨step HK6.out.1 HKr.out.1, Nat.le_trans HK6.out.2 HKr.out.2⟩)
                      have hcv1 := (HYo.out.below HK7.out.1).conv
                      obtain ⟨cap2, w8, cs, hrun, hd1, hd2, hby, hb8, hmb⟩ := own_made wr l (by have := HLN.out; unfold maxLen; omega)
                      have HM8 := Lib.hid hmb
                      obtain ⟨x0, hx0, _, _⟩ := hmb.u8 i hlt
                      have hcell := (hmb.cell i).trans hx0
                      have hfree := hmb.free hlt
                      have HM9 := Lib.hid (hmb.set hlt c hcv hcw)
                      have HK9 := Lib.hid (show KeepW w6 w6.heap.size (w8.setCell ⟨wr.heap.size, i, none⟩ (.int .u8 c)) from ⟨(step HKr.out.1 hb8).setCell (p := ⟨wr.heap.size, i, none⟩) HKr.out.2 _, by
                        have := HKr.out.2; have := hb8.size
                        show w6.heap.size ≤ (w8.heap.modify _ _).size
                        rw [Array.size_modify]; omega⟩)
                      have HL3 := Lib.hid (And.intro hd1 hd2)
                      clear hmb hby hb8 hd1 hd2 hcv hcw
                      go_wp2_with fail
                      obtain ⟨lx, hlx, hyx⟩ := HM9.out.byt (cap := cap2) HL3.out.1 HL3.out.2
                      have HYX := Lib.hid hyx
                      have HKA := Lib.hid (show KeepW w4 w4.heap.size (w8.setCell ⟨wr.heap.size, i, none⟩ (.int .u8 c)) from ⟨step HK6.out.1 HK9.out.1, Nat.le_trans HK6.out.2 HK9.out.2⟩)
                      clear hyx hlx
                      refine (HG.out _ HKA.out _ _ HYX.out).mono ?_
                      rintro e wA ⟨rfl, hbA⟩
                      have HKB := Lib.hid (HKA.out.step hbA)
                      have HKC := Lib.hid (HK9.out.step hbA)
                      have HYA := Lib.hid (HYX.out.below hbA)
                      clear hbA
                      go_wp2_with fail
                      refine (HBK.out _ HKB.out _ _ HYA.out).mono ?_
                      rintro e wB ⟨rfl, hbB⟩
                      have HKD := Lib.hid (HKC.out.step hbB)
                      clear hbB HKA HKB HKC HYX HYA HM9 HK9 HL3 HM8
                      go_wp2
                      go_roundw
                      case rel => exact ⟨k + 1, by omega, by go_num, HKD⟩
                      case measure => simp [intOf]; omega
                    · have hki : ¬ (k : Int) < 6 := by omega
                      have HKE := Lib.hid (show KeepW w4 w4.heap.size wr from ⟨step HK6.out.1 HKr.out.1, Nat.le_trans HK6.out.2 HKr.out.2⟩)
                      have hln := HLN.out
                      go_wp2
                      go_roundw
                      case rel => exact ⟨i + 1, by omega, by go_num, HKE⟩
                      case measure => simp [intOf]; omega
                · have hii : ¬ (i : Int) < (l.length : Int) := by omega
                  have HB7 := Lib.hid (step HB6.out HK.out.1)
                  clear HG HBK HYo HLN HK HB6 hlc hlm hi hlt
                  obtain ⟨R, big, hbig, hmk, hbc⟩ := big_row
                  have HBG := Lib.hid hbig
                  have HZW := Lib.hid HB7.out.size
                  clear hbig
                  go_upto_region 34 with (fail)
                  obtain ⟨w7, hw7, _, hgb, hbb, hzz⟩ := rows2 wr (.cells R 5) (.cells #[.string ⟨#[120]⟩, .slice none 0 0, .string big] 28)
                  rw [← hw7]
                  have HB8 := Lib.hid (step HB7.out hbb)
                  have HG8 := Lib.hid hgb
                  have HGZ := Lib.hid (show w.heap.size ≤ wr.heap.size + 1 by have := HZW.out; omega)
                  obtain ⟨g, hg⟩ : ∃ g, g = wr.heap.size + 1 := ⟨_, rfl⟩
                  rw [← hg] at HG8 HGZ ⊢
                  obtain ⟨hc0, hc1, hc2⟩ := three_cells HG8.out
                  have hR1 := right_drv ⟨#[120]⟩ (.slice none 0 0) [] big w7 (RdS.nil _ _) (fun s hs => by cases hs) (by decide) (by rw [HBG.out]; decide)
                  rw [right_x, HBG.out] at hR1
                  have HR1 := Lib.hid hR1
                  clear hR1 hw7 hgb hbb hzz hmk hbc HB7 HZW hg
                  go_wp2_with fail
                  refine HR1.out.mono ?_
                  rintro e w8 ⟨rfl, hb8⟩
                  have HG9 := Lib.hid ((hb8.block _ (block_lt HG8.out)).trans HG8.out)
                  have HB9 := Lib.hid (step HB8.out hb8)
                  clear hb8 hc0 hc1 hc2 HR1
                  obtain ⟨hc0, hc1, hc2⟩ := three_cells HG9.out
                  have hf2 : w8.frozen? ⟨g, 2, none⟩ = false := frozen_of_row _ _ _ _ _ HG9.out
                  have hbz : (1 : Int) ≤ (big.size : Int) := by rw [HBG.out]; decide
                  go_wp2
                  obtain ⟨W9, hW9⟩ : ∃ W, W = (w8.setCell ⟨g, 2, none⟩ (.string (big.extract 1 big.size))).alloc (.cells #[.string ⟨#[97]⟩, .string ⟨#[98]⟩, .string ⟨#[99]⟩] 9) := ⟨_, rfl⟩
                  have hsz : (w8.setCell ⟨g, 2, none⟩ (.string (big.extract 1 big.size))).heap.size = w8.heap.size := by show (w8.heap.modify _ _).size = _; rw [Array.size_modify]
                  have HN := Lib.hid (show NamesAt W9 w8.heap.size by rw [hW9, ← hsz]; exact heap_alloc_new _ _)
                  have HBX := Lib.hid (show W9.heap[g]? = some (.cells #[.string ⟨#[120]⟩, .slice none 0 0, .string (big.extract 1 big.size)] 28 (0, 0)) by
                    rw [hW9, old_block _ _ _ (by rw [hsz]; exact block_lt HG9.out)]
                    exact blk_set HG9.out 2 _)
                  have HB10 := Lib.hid (show Below w.heap.size w W9 by rw [hW9]; exact (HB9.out.setCell (p := ⟨g, 2, none⟩) HGZ.out _).alloc (by rw [hsz]; exact HB9.out.size) _)
                  have HEX := Lib.hid (show (big.extract 1 big.size).size ≤ 262144 by rw [ByteArray.size_extract, HBG.out]; decide)
                  rw [← hW9]
                  generalize w8.heap.size = gN at *
                  generalize big.extract 1 big.size = bg2 at *
                  clear hW9 hsz hc0 hc1 hc2 hf2 hbz HG9 HB9 HB8 HG8 HBG HGZ
                  go_loopw [18] (fun mv wr => ∃ (m : Nat), m ≤ 512 ∧ mv = .int .i64 (m : Int) ∧ Hid (KeepW W9 W9.heap.size wr)) (fun mv _ => 512 - (intOf mv).toNat)
                  case atStart => exact ⟨0, by omega, rfl, Lib.hid (KeepW.start (Nat.le_refl _))⟩
                  case round =>
                    obtain ⟨m, hm, rfl, HK⟩ := hrel
                    by_cases hlm : m < 512
                    · have hmi : (m : Int) < 512 := by omega
                      obtain ⟨wm, rfl⟩ : ∃ x, x = wr := ⟨_, rfl⟩
                      go_wp2
                      go_loopw [19, 20] (fun nv iv wx => ∃ (i : Nat) (rows : List (List ByteArray)) (A : Option Addr) (c : Nat), i ≤ 3 ∧ iv = .int .i64 (i : Int) ∧ rows.length = i ∧ nv = .slice A rows.length c ∧ Hid (∀ r ∈ rows, ∀ s ∈ r, s.size ≤ 1) ∧ Hid (Gr wx wm.heap.size (.slice A rows.length c) rows) ∧ Hid (KeepW wm wm.heap.size wx)) (fun _ iv _ => 3 - (intOf iv).toNat)
                      case atStart => exact ⟨0, [], none, 0, by omega, rfl, rfl, rfl, Lib.hid (fun r hr => by cases hr), Lib.hid (Gr.nil _ _), Lib.hid (KeepW.start (Nat.le_refl _))⟩
                      case round =>
                        obtain ⟨i, rows, A1, c1, hi, rfl, hri, rfl, HRS, HGR, HKi⟩ := hrel
                        have HRI := Lib.hid hri
                        clear hri
                        by_cases hli : i < 3
                        · have hii : (i : Int) < 3 := by omega
                          obtain ⟨wi, rfl⟩ : ∃ x, x = wr := ⟨_, rfl⟩
                          go_wp2
                          go_loopw [21, 22] (fun rv kv wy => ∃ (k : Nat) (l : List ByteArray) (A : Option Addr) (c : Nat), k ≤ 3 ∧ kv = .int .i64 (k : Int) ∧ l.length ≤ k ∧ rv = .slice A l.length c ∧ Hid (∀ s ∈ l, s.size ≤ 1) ∧ Hid (wy.ownsRow wi.heap.size 9 1 (.slice A l.length c) l.length (strs l)) ∧ Hid (KeepW wi wi.heap.size wy)) (fun _ kv _ => 3 - (intOf kv).toNat)
                          case atStart => exact ⟨0, [], none, 0, by omega, rfl, by simp, rfl, Lib.hid (fun s hs => by cases hs), Lib.hid (World.ownsRow_nil _ _ _ _), Lib.hid (KeepW.start (Nat.le_refl _))⟩
                          case round =>
                            obtain ⟨k, l, A2, c2, hk, rfl, hlk, rfl, HLS, HLO, HKk⟩ := hrel
                            by_cases hltk : k < 3
                            · have hki : (k : Int) < 3 := by omega
                              have hKN := (HN.out.below (step HK.out.1 (step HKi.out.1 HKk.out.1))).cell hltk
                              have HSK := Lib.hid (abc_small hltk)
                              generalize abc.getD k ⟨#[]⟩ = nk at *
                              obtain ⟨l2, hl2⟩ : ∃ l2, l2 = l ++ [nk] := ⟨_, rfl⟩
                              have HL2 := Lib.hid hl2
                              have HS2 := Lib.hid (show ∀ t ∈ l2, t.size ≤ 1 by
                                rw [hl2]
                                intro t ht
                                rcases List.mem_append.1 ht with h | h
                                · exact HLS.out t h
                                · rw [List.mem_singleton.1 h, HSK.out]; omega)
                              have HK2 := Lib.hid (show l2.length ≤ k + 1 by rw [hl2]; simp; omega)
                              clear hl2
                              go_wp2_with (at_builtin; refine wpList_pushT rfl _ _ rfl wi.heap.size _ l rfl (HLO.out.alloc _) ⟨wr.heap.size, 0, none⟩ nk rfl ?_ ?_ ?_ _ HL2.out ?_)
                              · exact (cell_of_row _ _ _ _ _ _ (heap_alloc_new wr _)).trans rfl
                              · omega
                              · have := HKk.out.2; simp; omega
                              · intro A4 c4 w4 hown4 hb4
                                have HB4 := Lib.hid (show KeepW wi wi.heap.size w4 from ⟨(HKk.out.1.alloc HKk.out.2 _).trans hb4, by have := HKk.out.2; have := hb4.size; simp at this; omega⟩)
                                have HO4 := Lib.hid hown4
                                clear hown4 hb4
                                go_wp2
                                go_roundw
                                case rel =>
                                  exact ⟨k + 1, l2, A4, c4, by omega, by go_num, HK2.out, rfl, HS2, HO4, HB4⟩
                                case measure => simp [intOf]; omega
                              all_goals
                                go_roundw
                                case rel => exact ⟨k + 1, l, A2, c2, by omega, by go_num, by omega, rfl, HLS, HLO, HKk⟩
                                case measure => simp [intOf]; omega
                            · have hki : ¬ (k : Int) < 3 := by omega
                              have HKc := Lib.hid (show KeepW wm wm.heap.size wr from ⟨step HKi.out.1 HKk.out.1, Nat.le_trans HKi.out.2 HKk.out.2⟩)
                              obtain ⟨rows2, hr2⟩ : ∃ rows2, rows2 = rows ++ [l] := ⟨_, rfl⟩
                              have HR2 := Lib.hid hr2
                              have HS2 := Lib.hid (show ∀ r ∈ rows2, ∀ s ∈ r, s.size ≤ 1 by
                                rw [hr2]
                                intro r hr
                                rcases List.mem_append.1 hr with h | h
                                · exact HRS.out r h
                                · rw [List.mem_singleton.1 h]; exact HLS.out)
                              have HK2 := Lib.hid (show rows2.length = i + 1 by rw [hr2, List.length_append, HRI.out]; rfl)
                              have HOL := Lib.hid (show ∀ b, (Value.slice A1 rows.length c1).ownBlock = some b → b < wi.heap.size by
                                intro b hb
                                obtain ⟨vs, h1, _⟩ := HGR.out
                                exact (h1.lt b hb).2)
                              clear hr2
                              go_wp2_with (at_builtin; refine wpList_pushR rfl _ _ rfl wm.heap.size _ rows rfl ((HGR.out.below HKk.out.1).below ((Below.refl _ _).alloc (Nat.le_refl _) _)) ⟨wr.heap.size, 0, none⟩ (.slice A2 l.length c2) rfl ?_ ?_ ?_ l rfl ?_ _ HR2.out ?_)
                              · rw [HRI.out]; omega
                              · have := HKc.out.2; simp; omega
                              · exact RdS.weak (RdS.below (RdS.own HLO.out) ((Below.refl _ _).alloc (Nat.le_refl _) _)) fun b _ hb e => by have := HOL.out b e; omega
                              · intro A4 c4 w4 hgr4 hb4
                                have HB4 := Lib.hid (show KeepW wm wm.heap.size w4 from ⟨(HKc.out.1.alloc HKc.out.2 _).trans hb4, by have := HKc.out.2; have := hb4.size; simp at this; omega⟩)
                                have HO4 := Lib.hid hgr4
                                clear hgr4 hb4
                                go_wp2
                                go_roundw
                                case rel => exact ⟨i + 1, rows2, A4, c4, by omega, by go_num, HK2.out, rfl, HS2, HO4, HB4⟩
                                case measure => simp [intOf]; omega
                        · have hii : ¬ (i : Int) < 3 := by omega
                          obtain rfl : i = 3 := by omega
                          have hri := HRI.out
                          rw [hri] at HGR ⊢
                          have HKd := Lib.hid (show KeepW W9 W9.heap.size wr from ⟨step HK.out.1 HKi.out.1, Nat.le_trans HK.out.2 HKi.out.2⟩)
                          have hc1 : 3 ≤ c1 := (texts_is HGR.out.texts).2
                          have HB11 := Lib.hid (step HB10.out HKd.out.1)
                          have HSR := Lib.hid (show ∀ r ∈ rows, Small r from fun r hr s hs => by have := HRS.out r hr s hs; unfold maxLen; omega)
                          have HSN := Lib.hid (show Small abc from fun s hs => by
                            simp only [abc, List.mem_cons, List.not_mem_nil, or_false] at hs
                            rcases hs with rfl | rfl | rfl <;> decide)
                          obtain ⟨q, hq0⟩ : ∃ q, q = m % 3 := ⟨_, rfl⟩
                          obtain ⟨r, hr0⟩ : ∃ r, r = m % 4 := ⟨_, rfl⟩
                          have hq : q < 3 := by omega
                          have hr : r ≤ 3 := by omega
                          have HNM := Lib.hid (fun (wx : World) (h : KeepW wr wr.heap.size wx) => HN.out.below (step HKd.out.1 h.1))
                          have HNQ := Lib.hid (fun (wx : World) (h : KeepW wr wr.heap.size wx) => (HNM.out wx h).cell hq)
                          have HNO := Lib.hid (fun (wx : World) (h : KeepW wr wr.heap.size wx) => (HNM.out wx h).one hq)
                          have HSQ := Lib.hid (abc_small hq)
                          have HSO := Lib.hid (fun (wx : World) (h : KeepW wr wr.heap.size wx) => drvSort_walk _ abc _ rows wx (HT.out _ (step HB11.out h.1)) (HNM.out wx h).row HSN.out (HGR.out.texts.below h.1) HSR.out)
                          generalize abc.getD q ⟨#[]⟩ = nq at *
                          have HS1 := Lib.hid (show Small [nq] from fun s hs => by rw [List.mem_singleton.1 hs, HSQ.out]; decide)
                          have HS2 := Lib.hid (show Small [⟨#[120]⟩, nq] from fun s hs => by
                            simp only [List.mem_cons, List.not_mem_nil, or_false] at hs
                            rcases hs with rfl | rfl
                            · decide
                            · rw [HSQ.out]; decide)
                          have HCL := Lib.hid (fun (wx : World) (h : KeepW wr wr.heap.size wx) => drvClosure_walk _ abc _ rows _ [nq] wx (HT.out _ (step HB11.out h.1)) (HNM.out wx h).row HSN.out (HGR.out.texts.below h.1) HSR.out (HNO.out wx h) HS1.out)
                          have HHO := Lib.hid (fun (wx : World) (h : KeepW wr wr.heap.size wx) (v : Value) (hv : TRow wx AllB v [⟨#[120]⟩, nq]) => drvHolds_walk _ abc _ (rows.take r) v [⟨#[120]⟩, nq] ⟨#[98]⟩ wx (HT.out _ (step HB11.out h.1)) (HNM.out wx h).row HSN.out (texts_cut (HGR.out.texts.below h.1) r (by omega)) (fun x hx => HSR.out x (List.mem_of_mem_take hx)) hv HS2.out (by decide))
                          go_upto_region 51 with (fail)
                          refine Inv.wp_region_invW (by kernel_rfl) (fun w' => KeepW wr wr.heap.size w') (fun k v w' => R51 gN A1 c1 m q r nq (kinds51.getD k 99) v w') (Inv.formW_spec (by kernel_rfl)) (KeepW.start (Nat.le_refl _)).drew (Inv.Each.steps ?_ rfl) (fun f w5 hC hR => ?_)
                          · clear HP
                            refine ⟨?_, ?_, ?_, ?_, ?_, ?_, ?_, ?_, ?_, ?_, ?_, ?_, ?_, ?_, ?_, ?_, ?_, ?_, ?_, ?_, ?_, ?_, ?_, ?_, ?_, ?_, ?_, ?_, ?_, ?_, ?_, ?_, trivial⟩
                            · refine Inv.StepW.of_run rfl (fun _ _ _ => rfl) ⟨fun a w' hC hdep hfix => ?_⟩
                              have e0 : a.eval (.tmp 17) = .slice (some ⟨gN, 0, none⟩) 3 3 := (hfix 17 (by decide)).trans rfl
                              refine ⟨.slice (some ⟨gN, 0, none⟩) 3 3, w', ?_, hC, rfl, fun _ _ h => h⟩
                              unfold execOp
                              simp only [List.map_toArray, List.map_cons, List.map_nil, e0]
                              kernel_rfl
                            · refine Inv.StepW.of_run rfl (fun _ _ _ => rfl) ⟨fun a w' hC hdep hfix => ?_⟩
                              have e0 : a.eval (.tmp 19) = .slice A1 3 c1 := (hfix 19 (by decide)).trans rfl
                              refine ⟨.slice A1 3 c1, w', ?_, hC, rfl, fun _ _ h => h⟩
                              unfold execOp
                              simp only [List.map_toArray, List.map_cons, List.map_nil, e0]
                              kernel_rfl
                            · refine Inv.StepW.of_call (f := 10) rfl (fun _ _ _ => rfl) (fun a w' hC hdep hfix => ?_)
                              have e0 : a.eval (.tmp 199) = .slice (some ⟨gN, 0, none⟩) 3 3 := hdep 0 _ 199 rfl rfl (by kernel_rfl)
                              have e1 : a.eval (.tmp 200) = .slice A1 3 c1 := hdep 1 _ 200 rfl rfl (by kernel_rfl)
                              refine ⟨#[.slice (some ⟨gN, 0, none⟩) 3 3, .slice A1 3 c1], w', ?_, (HSO.out w' hC).mono ?_⟩
                              · simp only [execOp, resolve, List.map_toArray, List.map_cons, List.map_nil, e0, e1]
                                kernel_rfl
                              · rintro e w2 ⟨rfl, hb2⟩
                                exact ⟨_, rfl, hC.step hb2, rfl, fun _ _ h => R51_below h hb2⟩
                            · refine Inv.StepW.of_run rfl (fun _ _ _ => rfl) ⟨fun a w' hC hdep hfix => ?_⟩
                              have e0 : a.eval (.tmp 201) = .bool true := hdep 2 _ 201 rfl rfl (by kernel_rfl)
                              refine ⟨.bool false, w', ?_, hC, rfl, fun _ _ h => h⟩
                              unfold execOp
                              simp only [List.map_toArray, List.map_cons, List.map_nil, e0]
                              kernel_rfl
                            · refine Inv.StepW.of_run rfl (fun _ _ _ => rfl) ⟨fun a w' hC hdep hfix => ?_⟩
                              have e0 : a.eval (.tmp 202) = .bool false := hdep 3 _ 202 rfl rfl (by kernel_rfl)
                              refine ⟨.bool false, w', ?_, hC, rfl, fun _ _ h => h⟩
                              unfold execOp
                              simp only [List.map_toArray, List.map_cons, List.map_nil, e0]
                              kernel_rfl
                            · refine Inv.StepW.of_run rfl (fun a w' hdep => (wanted_of (j := 4) (b := false) (d := 203) rfl rfl rfl (hdep 4 _ 203 rfl rfl (by kernel_rfl)))) ⟨fun a w' hC hdep hfix => ?_⟩
                              have e0 : a.eval (.tmp 17) = .slice (some ⟨gN, 0, none⟩) 3 3 := (hfix 17 (by decide)).trans rfl
                              refine ⟨.slice (some ⟨gN, 0, none⟩) 3 3, w', ?_, hC, rfl, fun _ _ h => h⟩
                              unfold execOp
                              simp only [List.map_toArray, List.map_cons, List.map_nil, e0]
                              kernel_rfl
                            · refine Inv.StepW.of_run rfl (fun a w' hdep => (wanted_of (j := 4) (b := false) (d := 203) rfl rfl rfl (hdep 4 _ 203 rfl rfl (by kernel_rfl)))) ⟨fun a w' hC hdep hfix => ?_⟩
                              have e0 : a.eval (.tmp 19) = .slice A1 3 c1 := (hfix 19 (by decide)).trans rfl
                              refine ⟨.slice A1 3 c1, w', ?_, hC, rfl, fun _ _ h => h⟩
                              unfold execOp
                              simp only [List.map_toArray, List.map_cons, List.map_nil, e0]
                              kernel_rfl
                            · refine Inv.StepW.of_run rfl (fun a w' hdep => (wanted_of (j := 4) (b := false) (d := 203) rfl rfl rfl (hdep 4 _ 203 rfl rfl (by kernel_rfl)))) ⟨fun a w' hC hdep hfix => ?_⟩
                              have e0 : a.eval (.tmp 17) = .slice (some ⟨gN, 0, none⟩) 3 3 := (hfix 17 (by decide)).trans rfl
                              refine ⟨.slice (some ⟨gN, 0, none⟩) 3 3, w', ?_, hC, rfl, fun _ _ h => h⟩
                              unfold execOp
                              simp only [List.map_toArray, List.map_cons, List.map_nil, e0]
                              kernel_rfl
                            · refine Inv.StepW.of_run rfl (fun a w' hdep => (wanted_of (j := 4) (b := false) (d := 203) rfl rfl rfl (hdep 4 _ 203 rfl rfl (by kernel_rfl)))) ⟨fun a w' hC hdep hfix => ?_⟩
                              have e0 : a.eval (.tmp 18) = .int .i64 (m : Int) := (hfix 18 (by decide)).trans rfl
                              refine ⟨.int .i64 (m : Int), w', ?_, hC, rfl, fun _ _ h => h⟩
                              unfold execOp
                              simp only [List.map_toArray, List.map_cons, List.map_nil, e0]
                              kernel_rfl
                            · refine Inv.StepW.of_run rfl (fun a w' hdep => (wanted_of (j := 4) (b := false) (d := 203) rfl rfl rfl (hdep 4 _ 203 rfl rfl (by kernel_rfl)))) ⟨fun a w' hC hdep hfix => ?_⟩
                              have e0 : a.eval (.tmp 207) = .int .i64 (m : Int) := hdep 8 _ 207 rfl rfl (by kernel_rfl)
                              refine ⟨.int .i64 (q : Int), w', ?_, hC, rfl, fun _ _ h => h⟩
                              unfold execOp
                              simp only [e0]
                              rw [hq0]
                              exact rem_run m 3 (by decide) (by decide) (by omega) _ _ w'
                            · refine Inv.StepW.of_run rfl (fun a w' hdep => (wanted_of (j := 4) (b := false) (d := 203) rfl rfl rfl (hdep 4 _ 203 rfl rfl (by kernel_rfl)))) ⟨fun a w' hC hdep hfix => ?_⟩
                              have e0 : a.eval (.tmp 18) = .int .i64 (m : Int) := (hfix 18 (by decide)).trans rfl
                              refine ⟨.int .i64 (m : Int), w', ?_, hC, rfl, fun _ _ h => h⟩
                              unfold execOp
                              simp only [List.map_toArray, List.map_cons, List.map_nil, e0]
                              kernel_rfl
                            · refine Inv.StepW.of_run rfl (fun a w' hdep => (wanted_of (j := 4) (b := false) (d := 203) rfl rfl rfl (hdep 4 _ 203 rfl rfl (by kernel_rfl)))) ⟨fun a w' hC hdep hfix => ?_⟩
                              have e0 : a.eval (.tmp 209) = .int .i64 (m : Int) := hdep 10 _ 209 rfl rfl (by kernel_rfl)
                              refine ⟨.int .i64 (q : Int), w', ?_, hC, rfl, fun _ _ h => h⟩
                              unfold execOp
                              simp only [e0]
                              rw [hq0]
                              exact rem_run m 3 (by decide) (by decide) (by omega) _ _ w'
                            · refine Inv.StepW.of_run rfl (fun a w' hdep => (wanted_of (j := 4) (b := false) (d := 203) rfl rfl rfl (hdep 4 _ 203 rfl rfl (by kernel_rfl)))) ⟨fun a w' hC hdep hfix => ?_⟩
                              have e0 : a.eval (.tmp 210) = .int .i64 (q : Int) := hdep 11 _ 210 rfl rfl (by kernel_rfl)
                              refine ⟨.int .i64 ((q : Int) + 1), w', ?_, hC, rfl, fun _ _ h => h⟩
                              unfold execOp
                              simp only [e0]
                              exact add_run q (by omega) _ _ w'
                            · refine Inv.StepW.of_run rfl (fun a w' hdep => (wanted_of (j := 4) (b := false) (d := 203) rfl rfl rfl (hdep 4 _ 203 rfl rfl (by kernel_rfl)))) ⟨fun a w' hC hdep hfix => ?_⟩
                              have e0 : a.eval (.tmp 206) = .slice (some ⟨gN, 0, none⟩) 3 3 := hdep 7 _ 206 rfl rfl (by kernel_rfl)
                              have e1 : a.eval (.tmp 208) = .int .i64 (q : Int) := hdep 9 _ 208 rfl rfl (by kernel_rfl)
                              have e2 : a.eval (.tmp 211) = .int .i64 ((q : Int) + 1) := hdep 12 _ 211 rfl rfl (by kernel_rfl)
                              refine ⟨.slice (some ⟨gN, q, none⟩) 1 (3 - q), w', ?_, hC, rfl, fun _ _ h => h⟩
                              unfold execOp
                              simp only [Option.map_some, Option.map_none, e0, e1, e2]
                              exact nslice gN q hq w'
                            · refine Inv.StepW.of_call (f := 11) rfl (fun a w' hdep => (wanted_of (j := 4) (b := false) (d := 203) rfl rfl rfl (hdep 4 _ 203 rfl rfl (by kernel_rfl)))) (fun a w' hC hdep hfix => ?_)
                              have e0 : a.eval (.tmp 204) = .slice (some ⟨gN, 0, none⟩) 3 3 := hdep 5 _ 204 rfl rfl (by kernel_rfl)
                              have e1 : a.eval (.tmp 205) = .slice A1 3 c1 := hdep 6 _ 205 rfl rfl (by kernel_rfl)
                              have e2 : a.eval (.tmp 212) = .slice (some ⟨gN, q, none⟩) 1 (3 - q) := hdep 13 _ 212 rfl rfl (by kernel_rfl)
                              refine ⟨#[.slice (some ⟨gN, 0, none⟩) 3 3, .slice A1 3 c1, .slice (some ⟨gN, q, none⟩) 1 (3 - q)], w', ?_, (HCL.out w' hC).mono ?_⟩
                              · simp only [execOp, resolve, List.map_toArray, List.map_cons, List.map_nil, e0, e1, e2]
                                kernel_rfl
                              · rintro e w2 ⟨rfl, hb2⟩
                                exact ⟨_, rfl, hC.step hb2, rfl, fun _ _ h => R51_below h hb2⟩
                            · refine Inv.StepW.of_run rfl (fun a w' hdep => (wanted_of (j := 4) (b := false) (d := 203) rfl rfl rfl (hdep 4 _ 203 rfl rfl (by kernel_rfl)))) ⟨fun a w' hC hdep hfix => ?_⟩
                              have e0 : a.eval (.tmp 213) = .bool true := hdep 14 _ 213 rfl rfl (by kernel_rfl)
                              refine ⟨.bool false, w', ?_, hC, rfl, fun _ _ h => h⟩
                              unfold execOp
                              simp only [List.map_toArray, List.map_cons, List.map_nil, e0]
                              kernel_rfl
                            · refine Inv.StepW.of_run rfl (fun _ _ _ => rfl) ⟨fun a w' hC hdep hfix => ?_⟩
                              have e0 : a.eval (.tmp 203) = .bool false := hdep 4 _ 203 rfl rfl (by kernel_rfl)
                              have e1 : a.eval (.tmp 214) = .bool false := hdep 15 _ 214 rfl rfl (by kernel_rfl)
                              refine ⟨.bool false, w', ?_, hC, rfl, fun _ _ h => h⟩
                              unfold execOp
                              simp only [List.map_toArray, List.map_cons, List.map_nil, e0, e1]
                              kernel_rfl
                            · refine Inv.StepW.of_run rfl (fun _ _ _ => rfl) ⟨fun a w' hC hdep hfix => ?_⟩
                              have e0 : a.eval (.tmp 215) = .bool false := hdep 16 _ 215 rfl rfl (by kernel_rfl)
                              refine ⟨.bool false, w', ?_, hC, rfl, fun _ _ h => h⟩
                              unfold execOp
                              simp only [List.map_toArray, List.map_cons, List.map_nil, e0]
                              kernel_rfl
                            · refine Inv.StepW.of_run rfl (fun a w' hdep => (wanted_of (j := 17) (b := false) (d := 216) rfl rfl rfl (hdep 17 _ 216 rfl rfl (by kernel_rfl)))) ⟨fun a w' hC hdep hfix => ?_⟩
                              have e0 : a.eval (.tmp 17) = .slice (some ⟨gN, 0, none⟩) 3 3 := (hfix 17 (by decide)).trans rfl
                              refine ⟨.slice (some ⟨gN, 0, none⟩) 3 3, w', ?_, hC, rfl, fun _ _ h => h⟩
                              unfold execOp
                              simp only [List.map_toArray, List.map_cons, List.map_nil, e0]
                              kernel_rfl
                            · refine Inv.StepW.of_run rfl (fun a w' hdep => (wanted_of (j := 17) (b := false) (d := 216) rfl rfl rfl (hdep 17 _ 216 rfl rfl (by kernel_rfl)))) ⟨fun a w' hC hdep hfix => ?_⟩
                              have e0 : a.eval (.tmp 19) = .slice A1 3 c1 := (hfix 19 (by decide)).trans rfl
                              refine ⟨.slice A1 3 c1, w', ?_, hC, rfl, fun _ _ h => h⟩
                              unfold execOp
                              simp only [List.map_toArray, List.map_cons, List.map_nil, e0]
                              kernel_rfl
                            · refine Inv.StepW.of_run rfl (fun a w' hdep => (wanted_of (j := 17) (b := false) (d := 216) rfl rfl rfl (hdep 17 _ 216 rfl rfl (by kernel_rfl)))) ⟨fun a w' hC hdep hfix => ?_⟩
                              have e0 : a.eval (.tmp 18) = .int .i64 (m : Int) := (hfix 18 (by decide)).trans rfl
                              refine ⟨.int .i64 (m : Int), w', ?_, hC, rfl, fun _ _ h => h⟩
                              unfold execOp
                              simp only [List.map_toArray, List.map_cons, List.map_nil, e0]
                              kernel_rfl
                            · refine Inv.StepW.of_run rfl (fun a w' hdep => (wanted_of (j := 17) (b := false) (d := 216) rfl rfl rfl (hdep 17 _ 216 rfl rfl (by kernel_rfl)))) ⟨fun a w' hC hdep hfix => ?_⟩
                              have e0 : a.eval (.tmp 219) = .int .i64 (m : Int) := hdep 20 _ 219 rfl rfl (by kernel_rfl)
                              refine ⟨.int .i64 (r : Int), w', ?_, hC, rfl, fun _ _ h => h⟩
                              unfold execOp
                              simp only [e0]
                              rw [hr0]
                              exact rem_run m 4 (by decide) (by decide) (by omega) _ _ w'
                            · refine Inv.StepW.of_run rfl (fun a w' hdep => (wanted_of (j := 17) (b := false) (d := 216) rfl rfl rfl (hdep 17 _ 216 rfl rfl (by kernel_rfl)))) ⟨fun a w' hC hdep hfix => ?_⟩
                              have e0 : a.eval (.tmp 218) = .slice A1 3 c1 := hdep 19 _ 218 rfl rfl (by kernel_rfl)
                              have e1 : a.eval (.tmp 220) = .int .i64 (r : Int) := hdep 21 _ 220 rfl rfl (by kernel_rfl)
                              refine ⟨.slice A1 r c1, w', ?_, hC, rfl, fun _ _ h => h⟩
                              unfold execOp
                              simp only [Option.map_some, Option.map_none, e0, e1]
                              exact rslice A1 c1 r hc1 (by omega) w'
                            · refine Inv.StepW.of_run rfl (fun a w' hdep => (wanted_of (j := 17) (b := false) (d := 216) rfl rfl rfl (hdep 17 _ 216 rfl rfl (by kernel_rfl)))) ⟨fun a w' hC hdep hfix => ?_⟩
                              have e0 : a.eval (.tmp 17) = .slice (some ⟨gN, 0, none⟩) 3 3 := (hfix 17 (by decide)).trans rfl
                              refine ⟨.slice (some ⟨gN, 0, none⟩) 3 3, w', ?_, hC, rfl, fun _ _ h => h⟩
                              unfold execOp
                              simp only [List.map_toArray, List.map_cons, List.map_nil, e0]
                              kernel_rfl
                            · refine Inv.StepW.of_run rfl (fun a w' hdep => (wanted_of (j := 17) (b := false) (d := 216) rfl rfl rfl (hdep 17 _ 216 rfl rfl (by kernel_rfl)))) ⟨fun a w' hC hdep hfix => ?_⟩
                              have e0 : a.eval (.tmp 18) = .int .i64 (m : Int) := (hfix 18 (by decide)).trans rfl
                              refine ⟨.int .i64 (m : Int), w', ?_, hC, rfl, fun _ _ h => h⟩
                              unfold execOp
                              simp only [List.map_toArray, List.map_cons, List.map_nil, e0]
                              kernel_rfl
                            · refine Inv.StepW.of_run rfl (fun a w' hdep => (wanted_of (j := 17) (b := false) (d := 216) rfl rfl rfl (hdep 17 _ 216 rfl rfl (by kernel_rfl)))) ⟨fun a w' hC hdep hfix => ?_⟩
                              have e0 : a.eval (.tmp 223) = .int .i64 (m : Int) := hdep 24 _ 223 rfl rfl (by kernel_rfl)
                              refine ⟨.int .i64 (q : Int), w', ?_, hC, rfl, fun _ _ h => h⟩
                              unfold execOp
                              simp only [e0]
                              rw [hq0]
                              exact rem_run m 3 (by decide) (by decide) (by omega) _ _ w'
                            · refine Inv.StepW.of_run rfl (fun a w' hdep => (wanted_of (j := 17) (b := false) (d := 216) rfl rfl rfl (hdep 17 _ 216 rfl rfl (by kernel_rfl)))) ⟨fun a w' hC hdep hfix => ?_⟩
                              have e0 : a.eval (.tmp 222) = .slice (some ⟨gN, 0, none⟩) 3 3 := hdep 23 _ 222 rfl rfl (by kernel_rfl)
                              have e1 : a.eval (.tmp 224) = .int .i64 (q : Int) := hdep 25 _ 224 rfl rfl (by kernel_rfl)
                              refine ⟨.pointer (some ⟨gN, q, none⟩), w', ?_, hC, rfl, fun _ _ h => h⟩
                              unfold execOp
                              simp only [e0, e1]
                              exact nidx gN q hq w'
                            · refine Inv.StepW.of_run rfl (fun a w' hdep => (wanted_of (j := 17) (b := false) (d := 216) rfl rfl rfl (hdep 17 _ 216 rfl rfl (by kernel_rfl)))) ⟨fun a w' hC hdep hfix => ?_⟩
                              have e0 : a.eval (.tmp 225) = .pointer (some ⟨gN, q, none⟩) := hdep 26 _ 225 rfl rfl (by kernel_rfl)
                              refine ⟨.string nq, w', ?_, hC, rfl, fun _ _ h => h⟩
                              unfold execOp
                              simp only [e0]
                              exact nload gN q nq w' (HNQ.out w' hC)
                            · refine Inv.StepW.of_run rfl (fun a w' hdep => (wanted_of (j := 17) (b := false) (d := 216) rfl rfl rfl (hdep 17 _ 216 rfl rfl (by kernel_rfl)))) ⟨fun a w' hC hdep hfix => ?_⟩
                              have e0 : a.eval (.tmp 226) = .string nq := hdep 27 _ 226 rfl rfl (by kernel_rfl)
                              refine ⟨.slice (some ⟨w'.heap.size, 0, none⟩) 2 2, w'.alloc (.cells #[.string ⟨#[120]⟩, .string nq] 9), ?_, hC.alloc _, ⟨w'.heap.size, rfl, trow_new w' #[.string ⟨#[120]⟩, .string nq] 9 [⟨#[120]⟩, nq] rfl (by simp)⟩, fun _ _ h => R51_below h ((Below.refl _ _).alloc (Nat.le_refl _) _)⟩
                              unfold execOp
                              simp only [List.map_toArray, List.map_cons, List.map_nil, e0]
                              kernel_rfl
                            · refine Inv.StepW.of_call (f := 12) rfl (fun a w' hdep => (wanted_of (j := 17) (b := false) (d := 216) rfl rfl rfl (hdep 17 _ 216 rfl rfl (by kernel_rfl)))) (fun a w' hC hdep hfix => ?_)
                              have e0 : a.eval (.tmp 217) = .slice (some ⟨gN, 0, none⟩) 3 3 := hdep 18 _ 217 rfl rfl (by kernel_rfl)
                              have e1 : a.eval (.tmp 221) = .slice A1 r c1 := hdep 22 _ 221 rfl rfl (by kernel_rfl)
                              obtain ⟨g2, e2, ht2⟩ : ∃ g2, a.eval (.tmp 227) = .slice (some ⟨g2, 0, none⟩) 2 2 ∧ TRow w' AllB (a.eval (.tmp 227)) [⟨#[120]⟩, nq] := hdep 28 _ 227 rfl rfl (by kernel_rfl)
                              rw [e2] at ht2
                              refine ⟨#[.slice (some ⟨gN, 0, none⟩) 3 3, .slice A1 r c1, .slice (some ⟨g2, 0, none⟩) 2 2, .string ⟨#[98]⟩], w', ?_, (HHO.out w' hC _ ht2).mono ?_⟩
                              · simp only [execOp, resolve, List.map_toArray, List.map_cons, List.map_nil, e0, e1, e2]
                                kernel_rfl
                              · rintro e w2 ⟨rfl, hb2⟩
                                exact ⟨_, rfl, hC.step hb2, rfl, fun _ _ h => R51_below h hb2⟩
                            · refine Inv.StepW.of_run rfl (fun a w' hdep => (wanted_of (j := 17) (b := false) (d := 216) rfl rfl rfl (hdep 17 _ 216 rfl rfl (by kernel_rfl)))) ⟨fun a w' hC hdep hfix => ?_⟩
                              have e0 : a.eval (.tmp 228) = .bool true := hdep 29 _ 228 rfl rfl (by kernel_rfl)
                              refine ⟨.bool false, w', ?_, hC, rfl, fun _ _ h => h⟩
                              unfold execOp
                              simp only [List.map_toArray, List.map_cons, List.map_nil, e0]
                              kernel_rfl
                            · refine Inv.StepW.of_run rfl (fun _ _ _ => rfl) ⟨fun a w' hC hdep hfix => ?_⟩
                              have e0 : a.eval (.tmp 216) = .bool false := hdep 17 _ 216 rfl rfl (by kernel_rfl)
                              have e1 : a.eval (.tmp 229) = .bool false := hdep 30 _ 229 rfl rfl (by kernel_rfl)
                              refine ⟨.bool false, w', ?_, hC, rfl, fun _ _ h => h⟩
                              unfold execOp
                              simp only [List.map_toArray, List.map_cons, List.map_nil, e0, e1]
                              kernel_rfl
                          have hv230 : f 230 = .bool false := hR 31 _ 230 rfl rfl
                          simp only [Inv.dsts, List.filterMap_cons, List.filterMap_nil, List.foldl_cons, List.foldl_nil, Act.put, List.setIfInBounds_toArray, List.set_cons_succ, List.set_cons_zero]
                          rw [hv230]
                          have HKZ := Lib.hid (show KeepW W9 W9.heap.size w5 from ⟨step HKd.out.1 hC.1, Nat.le_trans HKd.out.2 hC.2⟩)
                          clear hC hR hv230
                          go_wp2
                          go_roundw
                          case rel => exact ⟨m + 1, by omega, by go_num, HKZ⟩
                          case measure => simp [intOf]; omega
                    · have hmi : ¬ (m : Int) < 512 := by omega
                      have HB11 := Lib.hid (step HB10.out HK.out.1)
                      obtain ⟨hc0, hc1, hc2⟩ := three_cells ((HK.out.1.block _ (block_lt HBX.out)).trans HBX.out)
                      have hR2 := right_drv ⟨#[120]⟩ (.slice none 0 0) [] bg2 wr (RdS.nil _ _) (fun s hs => by cases hs) (by decide) (by have := HEX.out; unfold maxLen; omega)
                      rw [right_x, decide_eq_true HEX.out] at hR2
                      have HR2 := Lib.hid hR2
                      have HSA := Lib.hid (show ∀ l : List ByteArray, (∀ s ∈ l, s.size ≤ 1) → Small l from fun l h s hs => by have := h s hs; unfold maxLen; omega)
                      have HSO := Lib.hid (fun (wx : World) (h : KeepW wr wr.heap.size wx) => drvSort_walk _ [⟨#[97]⟩, ⟨#[98]⟩, ⟨#[97]⟩] _ [] (wx.alloc (.cells #[.string ⟨#[97]⟩, .string ⟨#[98]⟩, .string ⟨#[97]⟩] 9)) (HT.out _ (step HB11.out (h.alloc _).1)) (trow_new wx #[.string ⟨#[97]⟩, .string ⟨#[98]⟩, .string ⟨#[97]⟩] 9 _ rfl (by simp)) (HSA.out _ (by simp; decide)) (texts_nil _) (fun r hr => by cases hr))
                      have HCL := Lib.hid (fun (wx : World) (h : KeepW wr wr.heap.size wx) => drvClosure_walk _ [⟨#[97]⟩, ⟨#[97]⟩] _ [] _ [] (wx.alloc (.cells #[.string ⟨#[97]⟩, .string ⟨#[97]⟩] 9)) (HT.out _ (step HB11.out (h.alloc _).1)) (trow_new wx #[.string ⟨#[97]⟩, .string ⟨#[97]⟩] 9 _ rfl (by simp)) (HSA.out _ (by simp; decide)) (texts_nil _) (fun r hr => by cases hr) (RdS.nil _ _) (fun r hr => by cases hr))
                      have HHO := Lib.hid (fun (wx : World) (h : KeepW wr wr.heap.size wx) => drvHolds_walk _ [⟨#[97]⟩, ⟨#[97]⟩] _ [] _ [] ⟨#[]⟩ (wx.alloc (.cells #[.string ⟨#[97]⟩, .string ⟨#[97]⟩] 9)) (HT.out _ (step HB11.out (h.alloc _).1)) (trow_new wx #[.string ⟨#[97]⟩, .string ⟨#[97]⟩] 9 _ rfl (by simp)) (HSA.out _ (by simp; decide)) (texts_nil _) (fun r hr => by cases hr) (RdS.nil _ _) (fun r hr => by cases hr) (by decide))
                      have HSO2 := Lib.hid (fun (wx : World) (h : KeepW wr wr.heap.size wx) => drvSort_walk (.slice none 0 0) [] _ [[⟨#[97]⟩]] _ (HT.out _ (step HB11.out ((h.alloc _).alloc _).1)) (RdS.nil _ _) (fun r hr => by cases hr) (texts_one wx ⟨#[97]⟩) (fun r hr => by rw [List.mem_singleton.1 hr]; exact HSA.out _ (by simp; decide)))
                      go_wp2_with fail
                      refine HR2.out.mono ?_
                      rintro e x1 ⟨rfl, hb1⟩
                      have HX1 := Lib.hid ((KeepW.start (Nat.le_refl _)).step hb1)
                      clear hb1 hc0 hc1 hc2 HR2 hR2
                      go_wp2_with fail
                      refine (HSO.out x1 HX1.out).mono ?_
                      rintro e x2 ⟨rfl, hb2⟩
                      have HX2 := Lib.hid ((HX1.out.alloc _).step hb2)
                      clear hb2
                      go_wp2_with fail
                      refine (HCL.out x2 HX2.out).mono ?_
                      rintro e x3 ⟨rfl, hb3⟩
                      have HX3 := Lib.hid ((HX2.out.alloc _).step hb3)
                      clear hb3
                      go_wp2_with fail
                      refine (HHO.out x3 HX3.out).mono ?_
                      rintro e x4 ⟨rfl, hb4⟩
                      have HX4 := Lib.hid ((HX3.out.alloc _).step hb4)
                      clear hb4
                      go_wp2_with fail
                      refine (HSO2.out x4 HX4.out).mono ?_
                      rintro e x5 ⟨rfl, hb5⟩
                      have HX5 := Lib.hid (((HX4.out.alloc _).alloc _).step hb5)
                      clear hb5
                      go_wp2_with fail
                      refine (works_any x5 (HT.out _ (step HB11.out HX5.out.1))).mono ?_
                      rintro e x6 ⟨rfl, hb6⟩
                      have HX6 := Lib.hid (HX5.out.step hb6)
                      clear hb6
                      go_wp2
                      exact HP.out _ (step HB11.out HX6.out.1)
theorem drvKnown_walk (w : World) (ht : Sha.Tabs w) : Calls Tryz.prog 3 #[] w fun e w' => e = .returned (.bool true) ∧ Below w.heap.size w w' := known_w w ht
end Go.Proofs.YtbniilajffjfcaaGreatDoor
