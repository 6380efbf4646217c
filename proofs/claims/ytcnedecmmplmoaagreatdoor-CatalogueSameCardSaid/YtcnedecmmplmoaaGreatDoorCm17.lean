/- Contract of the reference's Print. -/
import Derived.Test.YtcnedecmmplmoaaGreatDoorCm16
set_option linter.unusedVariables false
set_option linter.unusedSimpArgs false
namespace Go.Proofs.YtcnedecmmplmoaaGreatDoor
open Go.RowKit Go.BigFrame
open Ver (cmpV BL parts)

def jl (c : UInt8) (xs : List ByteArray) : BL := List.intercalate [c] (xs.map (·.data.toList))
theorem jnB_list (c : UInt8) (xs : List ByteArray) : (jnB c xs).data.toList = jl c xs := by simp [jnB, jl]
theorem inter_snocC (c : UInt8) : ∀ (ps : List BL) (p : BL), ps ≠ [] → List.intercalate [c] (ps ++ [p]) = List.intercalate [c] ps ++ c :: p
  | [], _, h => absurd rfl h
  | [q], p, _ => by rw [Ver.inter_one, show [q] ++ [p] = [q, p] from rfl, Ver.inter_cons2, Ver.inter_one]
  | q :: r :: ps, p, _ => by
    have ih := inter_snocC c (r :: ps) p (by simp)
    rw [show (q :: r :: ps) ++ [p] = q :: r :: (ps ++ [p]) from rfl, Ver.inter_cons2, Ver.inter_cons2, show r :: (ps ++ [p]) = (r :: ps) ++ [p] from rfl, ih, List.append_assoc]; rfl
theorem jl_first {α : Type} (c : UInt8) (f : α → ByteArray) (l : List α) (k : Nat) (x : α) (hk : l[k]? = some x) (h0 : k = 0) : jl c ((l.take (k + 1)).map f) = (f x).data.toList := by
  subst h0
  rw [take_next l 0 x hk, List.take_zero, List.nil_append]
  exact Ver.inter_one _ _
theorem jl_zero {α : Type} (c : UInt8) (f : α → ByteArray) (l : List α) (k : Nat) (h0 : k = 0) : jl c ((l.take k).map f) = [] := by subst h0; rfl
theorem jl_next {α : Type} (c : UInt8) (f : α → ByteArray) (l : List α) (k : Nat) (x : α) (hk : l[k]? = some x) (h0 : 0 < k) : jl c ((l.take (k + 1)).map f) = jl c ((l.take k).map f) ++ c :: (f x).data.toList := by
  unfold jl
  rw [take_next l k x hk, List.map_append, List.map_append]
  refine inter_snocC c _ _ fun e => ?_
  have := congrArg List.length e
  have hl := (List.getElem?_eq_some_iff.1 hk).1
  rw [List.length_map, List.length_map, List.length_take, List.length_nil] at this
  omega
theorem data_app (a b : ByteArray) : (a ++ b).data.toList = a.data.toList ++ b.data.toList := by simp
theorem lit_list44 : (⟨#[44]⟩ : ByteArray).data.toList = [44] := rfl
theorem ret_txt {s t : ByteArray} {x y : Int} (h : s = t) (h2 : x = y) : Ending.returned (.tuple #[.string s, .int .i64 x]) = .returned (.tuple #[.string t, .int .i64 y]) := by rw [h, h2]
set_option maxRecDepth 100000 in
set_option maxHeartbeats 4000000 in
theorem refprint_any (r : List (List Bd)) (v : Value) (w : World) (h : RngAt w v r) (hsz : Short r) :
    Calls Tryz.prog 100 #[v] w fun e w' => e = .returned (.tuple #[.string (prS r), .int .i64 (prE r)]) ∧ Below w.heap.size w w' := by
  have HT := Lib.hid (may_any r v w h hsz)
  cases hm : mayR r
  · rw [hm] at HT
    have HF := Lib.hid (show prS r = ⟨#[]⟩ ∧ prE r = 2 by unfold prS prE; rw [hm]; exact ⟨rfl, rfl⟩)
    clear h hm hsz
    go_enter Tryz.func100, Tryz.ntmps100
    go_wp2_with (go_at_call 85; refine HT.out.mono ?_; rintro e w2 ⟨rfl, hb2⟩)
    go_ret2
    exact ⟨ret_txt HF.out.1.symm HF.out.2.symm, hb2⟩
  · rw [hm] at HT
    have HF := Lib.hid (show prS r = printB r ∧ prE r = 0 by unfold prS prE; rw [hm]; exact ⟨rfl, rfl⟩)
    have HR := Lib.hid h
    have HSZ := Lib.hid hsz
    obtain ⟨A, cap, rfl, hcl, hcm⟩ := h.form
    have HMA := Lib.hid (may_all r hm)
    have HML := Lib.hid (show r.length ≤ 16 ∧ ∀ row ∈ r, 1 ≤ row.length ∧ row.length ≤ 16 by
      unfold mayR at hm
      simp only [Bool.and_eq_true, decide_eq_true_eq] at hm
      refine ⟨hm.1, fun row hr => ?_⟩
      have := List.all_eq_true.1 hm.2 row hr
      unfold mayRow at this
      simp only [Bool.and_eq_true, decide_eq_true_eq] at this
      exact this.1)
    clear h hm hsz
    unfold maxLen at hcm
    by_cases h0 : r.length = 0
    · have h0I : ((r.length : Int) == 0) = true := by rw [h0]; rfl
      have HF2 := Lib.hid (show prS r = ⟨#[42]⟩ by rw [HF.out.1]; unfold printB; rw [if_pos h0])
      clear h0
      go_enter Tryz.func100, Tryz.ntmps100
      go_wp2_with (go_at_call 85; refine HT.out.mono ?_; rintro e w2 ⟨rfl, hb2⟩)
      go_ret2
      exact ⟨ret_txt HF2.out.symm HF.out.2.symm, hb2⟩
    · have h0I : ((r.length : Int) == 0) = false := by rw [beq_eq_false_iff_ne]; omega
      have HF2 := Lib.hid (show prS r = jnB 124 (r.map rowTxt) by rw [HF.out.1]; unfold printB; rw [if_neg h0])
      have hr16 := HML.out.1
      clear h0
      go_enter Tryz.func100, Tryz.ntmps100
      go_wp2_with (go_at_call 85; refine HT.out.mono ?_; rintro e w2 ⟨rfl, hb2⟩)
      have HB2 := Lib.hid hb2
      clear hb2
      go_loopw [4, 5] (fun s i wr => ∃ (k : Nat) (S : ByteArray), k ≤ r.length ∧ i = .int .i64 (k : Int) ∧ s = .string S ∧ S.size ≤ 17000200 * k ∧ Hid (S.data.toList = jl 124 ((r.take k).map rowTxt)) ∧ Hid (Below w2.heap.size w2 wr)) (fun _ i _ => r.length - (intOf i).toNat)
      case atStart => exact ⟨0, ⟨#[]⟩, by omega, rfl, rfl, by decide, Lib.hid rfl, Lib.hid (Below.refl _ _)⟩
      case round =>
        obtain ⟨k, S, hk, rfl, rfl, hSz, HS, HB⟩ := hrel
        have hbw := below_step HB2.out HB.out HB2.out.size
        have HBW := Lib.hid hbw
        clear hbw
        by_cases hlt : k < r.length
        · have hltI : (k : Int) < (r.length : Int) := by omega
          have hk0 : (0 : Int) ≤ (k : Int) := by omega
          obtain ⟨ad, u, rfl, hc, hrow⟩ := (HR.out.below HBW.out).get k hlt
          obtain ⟨row, hrw⟩ : ∃ row, row = r.getD k default := ⟨_, rfl⟩
          rw [← hrw] at hrow
          have HRK := Lib.hid (show r[k]? = some row by rw [hrw]; exact getD_get r k _ hlt)
          have HSR := Lib.hid (show ∀ b ∈ row, b.2.size ≤ 1000000 from HSZ.out row (List.mem_of_getElem? HRK.out))
          have HMR := Lib.hid (show ∀ b ∈ row, mayB b = true from HMA.out row (List.mem_of_getElem? HRK.out))
          have hrl := HML.out.2 row (List.mem_of_getElem? HRK.out)
          obtain ⟨A2, cap2, rfl, hcl2, hcm2⟩ := RdS.form hrow
          have HROW := Lib.hid hrow
          clear hrow hrw
          unfold maxLen at hcm2
          rcases Nat.eq_zero_or_pos k with h0k | h0k
          · have hkz : ¬ (k : Int) > 0 := by omega
            have HP := Lib.hid (fun (T : ByteArray) (hT : T.data.toList = S.data.toList ++ (rowTxt row).data.toList) => (show T.data.toList = jl 124 ((r.take (k + 1)).map rowTxt) by
              rw [hT, HS.out, jl_first 124 rowTxt r k _ HRK.out h0k, jl_zero 124 rowTxt r k h0k]; rfl))
            obtain ⟨P, hP⟩ : ∃ P, P = S := ⟨_, rfl⟩
            rw [← hP] at HP
            have hPz : P.size ≤ 17000200 * k + 1 := by rw [hP]; omega
            clear h0k
            go_upto_region 11 with (fail)
            rw [← hP]
            clear hP
            clear HBW
            obtain ⟨wo, hwo⟩ : ∃ wo : World, wo = wr := ⟨_, rfl⟩
            rw [← hwo] at HB hc HROW ⊢
            clear hwo wr
            have HC := Lib.hid hc
            clear hc
            go_wp2
            go_loopw [4, 6] (fun s j wq => ∃ (m : Nat) (Q : ByteArray), m ≤ row.length ∧ j = .int .i64 (m : Int) ∧ s = .string Q ∧ Q.size ≤ P.size + 1000010 * m ∧ Hid (Q.data.toList = P.data.toList ++ jl 44 ((row.take m).map btxt)) ∧ Hid (Below wo.heap.size wo wq)) (fun _ j _ => row.length - (intOf j).toNat)
            case atStart => exact ⟨0, P, by omega, rfl, rfl, by omega, Lib.hid (by simp [jl, List.intercalate]), Lib.hid (Below.refl _ _)⟩
            case round =>
              obtain ⟨m, Q, hm, rfl, rfl, hQz, HQ, HBI⟩ := hrel
              have hbl0 := block_lt_of_cell (show wo.cell? ⟨(ad.add k).block, (ad.add k).off, (ad.add k).3⟩ = _ from HC.out)
              have hc : wr.cell? (ad.add k) = some (.slice A2 row.length cap2) := (HBI.out.cell hbl0).trans HC.out
              have hbl := block_lt_of_cell (show wr.cell? ⟨(ad.add k).block, (ad.add k).off, (ad.add k).3⟩ = _ from hc)
              clear hbl0
              by_cases hmt : m < row.length
              · have hmtI : (m : Int) < (row.length : Int) := by omega
                have hm0 : (0 : Int) ≤ (m : Int) := by omega
                obtain ⟨ad2, rfl, hbc⟩ := BRow.get (RdS.below HROW.out HBI.out) m hmt
                obtain ⟨b, hbb⟩ : ∃ b, b = row.getD m default := ⟨_, rfl⟩
                rw [← hbb] at hbc
                have HBK := Lib.hid (show row[m]? = some b by rw [hbb]; exact getD_get row m _ hmt)
                have hvz : b.2.size ≤ 1000000 := HSR.out b (List.mem_of_getElem? HBK.out)
                have HMB := Lib.hid (HMR.out b (List.mem_of_getElem? HBK.out))
                have ho7 := mayB_le b HMB.out
                clear hbb
                obtain ⟨o, tx⟩ := b
                dsimp only at ho7 hvz
                have hb0 : wr.cell? (ad2.add (m * 2)) = some (.int .u8 (o : Int)) := by have := hbc 0 _ rfl; simpa [add_add] using this
                have hb1 : wr.cell? ⟨(ad2.add (m * 2)).block, (ad2.add (m * 2)).off + 1, none⟩ = some (.string tx) := hbc 1 _ rfl
                have hbl2 := block_lt_of_cell (show wr.cell? ⟨(ad2.add (m * 2)).block, (ad2.add (m * 2)).off, (ad2.add (m * 2)).3⟩ = _ from hb0)
                clear hbc
                have HSG := Lib.hid (fun w => rsign_any o ho7 w)
                obtain ⟨tt, htt⟩ : ∃ tt, tt = sgnB o := ⟨_, rfl⟩
                rw [← htt] at HSG
                have htz : tt.size ≤ 2 := by have := sgnB_le o; rw [htt]; omega
                have HTT := Lib.hid htt
                clear htt
                rcases Nat.eq_zero_or_pos m with h0m | h0m
                · have hmz : ¬ (m : Int) > 0 := by omega
                  have HM0 := Lib.hid h0m
                  clear h0m

                  by_cases h0 : o = 0
                  · have htx : tx.size = 0 := by have := HMB.out; rw [h0, mayB_zero] at this; simpa using this
                    have HLN := Lib.hid (show (Q ++ tt).data.toList = P.data.toList ++ jl 44 ((row.take (m + 1)).map btxt) by
                      rw [jl_first 44 btxt row m _ HBK.out HM0.out]
                      have hq := HQ.out
                      rw [jl_zero 44 btxt row m HM0.out] at hq
                      rw [show (btxt (o, tx)) = tt ++ tx by rw [HTT.out]; rfl]
                      simp only [data_app, hq, nil_of tx htx, lit_list44, List.append_nil, List.append_assoc, List.cons_append, List.nil_append])
                    have HSN := Lib.hid (show (Q ++ tt).size ≤ P.size + 1000010 * (m + 1) by
                      have h44 : (⟨#[44]⟩ : ByteArray).size = 1 := rfl
                      simp only [ByteArray.size_append, h44]; omega)
                    have h0b : ((o : Int) != 0) = false := by rw [h0]; rfl
                    have HH0 := Lib.hid h0
                    clear h0 htx
                    go_upto_region 17 with (go_at_call 115; refine (HSG.out _).mono ?_; rintro e w3 ⟨rfl, hb3⟩)
                    have hc3 := (hb3.cell hbl).trans hc
                    have hb03 := (hb3.cell hbl2).trans hb0
                    have HB3 := Lib.hid hb3
                    clear hb3 hc hb0 hb1
                    go_wp2
                    go_roundw
                    case rel => exact ⟨m + 1, Q ++ tt, by omega, by go_num, rfl, HSN.out, HLN, Lib.hid (below_step HBI.out HB3.out HBI.out.size)⟩
                    case measure => simp [intOf]; omega
                  · have h0b : ((o : Int) != 0) = true := by rw [bne_iff_ne]; omega
                    have HLN := Lib.hid (show ((Q ++ tt) ++ tx).data.toList = P.data.toList ++ jl 44 ((row.take (m + 1)).map btxt) by
                      rw [jl_first 44 btxt row m _ HBK.out HM0.out]
                      have hq := HQ.out
                      rw [jl_zero 44 btxt row m HM0.out] at hq
                      rw [show (btxt (o, tx)) = tt ++ tx by rw [HTT.out]; rfl]
                      simp only [data_app, hq, lit_list44, List.append_nil, List.append_assoc, List.cons_append, List.nil_append])
                    have HSN := Lib.hid (show ((Q ++ tt) ++ tx).size ≤ P.size + 1000010 * (m + 1) by
                      have h44 : (⟨#[44]⟩ : ByteArray).size = 1 := rfl
                      simp only [ByteArray.size_append, h44]; omega)
                    clear h0
                    go_upto_region 17 with (go_at_call 115; refine (HSG.out _).mono ?_; rintro e w3 ⟨rfl, hb3⟩)
                    have hc3 := (hb3.cell hbl).trans hc
                    have hb03 := (hb3.cell hbl2).trans hb0
                    have hb13 : w3.cell? ⟨(ad2.add (m * 2)).block, (ad2.add (m * 2)).off + 1, none⟩ = some (.string tx) := (hb3.cell (p := ⟨(ad2.add (m * 2)).block, (ad2.add (m * 2)).off + 1, none⟩) hbl2).trans hb1
                    have HB3 := Lib.hid hb3
                    clear hb3 hc hb0 hb1
                    go_wp2
                    go_roundw
                    case rel => exact ⟨m + 1, (Q ++ tt) ++ tx, by omega, by go_num, rfl, HSN.out, HLN, Lib.hid (below_step HBI.out HB3.out HBI.out.size)⟩
                    case measure => simp [intOf]; omega
                · have hmz : (m : Int) > 0 := by omega
                  have HM0 := Lib.hid h0m
                  clear h0m

                  by_cases h0 : o = 0
                  · have htx : tx.size = 0 := by have := HMB.out; rw [h0, mayB_zero] at this; simpa using this
                    have HLN := Lib.hid (show ((Q ++ ⟨#[44]⟩) ++ tt).data.toList = P.data.toList ++ jl 44 ((row.take (m + 1)).map btxt) by
                      rw [jl_next 44 btxt row m _ HBK.out HM0.out]
                      have hq := HQ.out
                      skip
                      rw [show (btxt (o, tx)) = tt ++ tx by rw [HTT.out]; rfl]
                      simp only [data_app, hq, nil_of tx htx, lit_list44, List.append_nil, List.append_assoc, List.cons_append, List.nil_append])
                    have HSN := Lib.hid (show ((Q ++ ⟨#[44]⟩) ++ tt).size ≤ P.size + 1000010 * (m + 1) by
                      have h44 : (⟨#[44]⟩ : ByteArray).size = 1 := rfl
                      simp only [ByteArray.size_append, h44]; omega)
                    have h0b : ((o : Int) != 0) = false := by rw [h0]; rfl
                    have HH0 := Lib.hid h0
                    clear h0 htx
                    go_upto_region 17 with (go_at_call 115; refine (HSG.out _).mono ?_; rintro e w3 ⟨rfl, hb3⟩)
                    have hc3 := (hb3.cell hbl).trans hc
                    have hb03 := (hb3.cell hbl2).trans hb0
                    have HB3 := Lib.hid hb3
                    clear hb3 hc hb0 hb1
                    go_wp2
                    go_roundw
                    case rel => exact ⟨m + 1, (Q ++ ⟨#[44]⟩) ++ tt, by omega, by go_num, rfl, HSN.out, HLN, Lib.hid (below_step HBI.out HB3.out HBI.out.size)⟩
                    case measure => simp [intOf]; omega
                  · have h0b : ((o : Int) != 0) = true := by rw [bne_iff_ne]; omega
                    have HLN := Lib.hid (show (((Q ++ ⟨#[44]⟩) ++ tt) ++ tx).data.toList = P.data.toList ++ jl 44 ((row.take (m + 1)).map btxt) by
                      rw [jl_next 44 btxt row m _ HBK.out HM0.out]
                      have hq := HQ.out
                      skip
                      rw [show (btxt (o, tx)) = tt ++ tx by rw [HTT.out]; rfl]
                      simp only [data_app, hq, lit_list44, List.append_nil, List.append_assoc, List.cons_append, List.nil_append])
                    have HSN := Lib.hid (show (((Q ++ ⟨#[44]⟩) ++ tt) ++ tx).size ≤ P.size + 1000010 * (m + 1) by
                      have h44 : (⟨#[44]⟩ : ByteArray).size = 1 := rfl
                      simp only [ByteArray.size_append, h44]; omega)
                    clear h0
                    go_upto_region 17 with (go_at_call 115; refine (HSG.out _).mono ?_; rintro e w3 ⟨rfl, hb3⟩)
                    have hc3 := (hb3.cell hbl).trans hc
                    have hb03 := (hb3.cell hbl2).trans hb0
                    have hb13 : w3.cell? ⟨(ad2.add (m * 2)).block, (ad2.add (m * 2)).off + 1, none⟩ = some (.string tx) := (hb3.cell (p := ⟨(ad2.add (m * 2)).block, (ad2.add (m * 2)).off + 1, none⟩) hbl2).trans hb1
                    have HB3 := Lib.hid hb3
                    clear hb3 hc hb0 hb1
                    go_wp2
                    go_roundw
                    case rel => exact ⟨m + 1, ((Q ++ ⟨#[44]⟩) ++ tt) ++ tx, by omega, by go_num, rfl, HSN.out, HLN, Lib.hid (below_step HBI.out HB3.out HBI.out.size)⟩
                    case measure => simp [intOf]; omega
              · have hmtI : ¬ (m : Int) < (row.length : Int) := by omega
                have hqe : Q.data.toList = P.data.toList ++ (rowTxt row).data.toList := by
                  have := HQ.out
                  rw [show m = row.length by omega, List.take_length] at this
                  rw [this]; unfold rowTxt; rw [jnB_list]
                have HNX := Lib.hid (HP.out Q hqe)
                have HBX := Lib.hid (below_step HB.out HBI.out HB.out.size)
                have hQz2 : Q.size ≤ 17000200 * (k + 1) := by omega
                clear hqe
                go_wp2
                go_roundw
                case rel => exact ⟨k + 1, Q, by omega, by go_num, rfl, hQz2, HNX, HBX⟩
                case measure => simp [intOf]; omega
          · have hkz : (k : Int) > 0 := by omega
            have hkd : decide (0 < k) = true := decide_eq_true h0k
            have HP := Lib.hid (fun (T : ByteArray) (hT : T.data.toList = (S ++ ⟨#[124]⟩).data.toList ++ (rowTxt row).data.toList) => (show T.data.toList = jl 124 ((r.take (k + 1)).map rowTxt) by
              rw [hT, jl_next 124 rowTxt r k _ HRK.out h0k, ← HS.out]; simp))
            obtain ⟨P, hP⟩ : ∃ P, P = S ++ ⟨#[124]⟩ := ⟨_, rfl⟩
            rw [← hP] at HP
            have hPz : P.size ≤ 17000200 * k + 1 := by
              have h44 : (⟨#[124]⟩ : ByteArray).size = 1 := rfl
              rw [hP, ByteArray.size_append, h44]; omega
            clear h0k
            go_upto_region 11 with (fail)
            rw [← hP]
            clear hP
            clear HBW
            obtain ⟨wo, hwo⟩ : ∃ wo : World, wo = wr := ⟨_, rfl⟩
            rw [← hwo] at HB hc HROW ⊢
            clear hwo wr
            have HC := Lib.hid hc
            clear hc
            go_wp2
            go_loopw [4, 6] (fun s j wq => ∃ (m : Nat) (Q : ByteArray), m ≤ row.length ∧ j = .int .i64 (m : Int) ∧ s = .string Q ∧ Q.size ≤ P.size + 1000010 * m ∧ Hid (Q.data.toList = P.data.toList ++ jl 44 ((row.take m).map btxt)) ∧ Hid (Below wo.heap.size wo wq)) (fun _ j _ => row.length - (intOf j).toNat)
            case atStart => exact ⟨0, P, by omega, rfl, rfl, by omega, Lib.hid (by simp [jl, List.intercalate]), Lib.hid (Below.refl _ _)⟩
            case round =>
              obtain ⟨m, Q, hm, rfl, rfl, hQz, HQ, HBI⟩ := hrel
              have hbl0 := block_lt_of_cell (show wo.cell? ⟨(ad.add k).block, (ad.add k).off, (ad.add k).3⟩ = _ from HC.out)
              have hc : wr.cell? (ad.add k) = some (.slice A2 row.length cap2) := (HBI.out.cell hbl0).trans HC.out
              have hbl := block_lt_of_cell (show wr.cell? ⟨(ad.add k).block, (ad.add k).off, (ad.add k).3⟩ = _ from hc)
              clear hbl0
              by_cases hmt : m < row.length
              · have hmtI : (m : Int) < (row.length : Int) := by omega
                have hm0 : (0 : Int) ≤ (m : Int) := by omega
                obtain ⟨ad2, rfl, hbc⟩ := BRow.get (RdS.below HROW.out HBI.out) m hmt
                obtain ⟨b, hbb⟩ : ∃ b, b = row.getD m default := ⟨_, rfl⟩
                rw [← hbb] at hbc
                have HBK := Lib.hid (show row[m]? = some b by rw [hbb]; exact getD_get row m _ hmt)
                have hvz : b.2.size ≤ 1000000 := HSR.out b (List.mem_of_getElem? HBK.out)
                have HMB := Lib.hid (HMR.out b (List.mem_of_getElem? HBK.out))
                have ho7 := mayB_le b HMB.out
                clear hbb
                obtain ⟨o, tx⟩ := b
                dsimp only at ho7 hvz
                have hb0 : wr.cell? (ad2.add (m * 2)) = some (.int .u8 (o : Int)) := by have := hbc 0 _ rfl; simpa [add_add] using this
                have hb1 : wr.cell? ⟨(ad2.add (m * 2)).block, (ad2.add (m * 2)).off + 1, none⟩ = some (.string tx) := hbc 1 _ rfl
                have hbl2 := block_lt_of_cell (show wr.cell? ⟨(ad2.add (m * 2)).block, (ad2.add (m * 2)).off, (ad2.add (m * 2)).3⟩ = _ from hb0)
                clear hbc
                have HSG := Lib.hid (fun w => rsign_any o ho7 w)
                obtain ⟨tt, htt⟩ : ∃ tt, tt = sgnB o := ⟨_, rfl⟩
                rw [← htt] at HSG
                have htz : tt.size ≤ 2 := by have := sgnB_le o; rw [htt]; omega
                have HTT := Lib.hid htt
                clear htt
                rcases Nat.eq_zero_or_pos m with h0m | h0m
                · have hmz : ¬ (m : Int) > 0 := by omega
                  have HM0 := Lib.hid h0m
                  clear h0m

                  by_cases h0 : o = 0
                  · have htx : tx.size = 0 := by have := HMB.out; rw [h0, mayB_zero] at this; simpa using this
                    have HLN := Lib.hid (show (Q ++ tt).data.toList = P.data.toList ++ jl 44 ((row.take (m + 1)).map btxt) by
                      rw [jl_first 44 btxt row m _ HBK.out HM0.out]
                      have hq := HQ.out
                      rw [jl_zero 44 btxt row m HM0.out] at hq
                      rw [show (btxt (o, tx)) = tt ++ tx by rw [HTT.out]; rfl]
                      simp only [data_app, hq, nil_of tx htx, lit_list44, List.append_nil, List.append_assoc, List.cons_append, List.nil_append])
                    have HSN := Lib.hid (show (Q ++ tt).size ≤ P.size + 1000010 * (m + 1) by
                      have h44 : (⟨#[44]⟩ : ByteArray).size = 1 := rfl
                      simp only [ByteArray.size_append, h44]; omega)
                    have h0b : ((o : Int) != 0) = false := by rw [h0]; rfl
                    have HH0 := Lib.hid h0
                    clear h0 htx
                    go_upto_region 17 with (go_at_call 115; refine (HSG.out _).mono ?_; rintro e w3 ⟨rfl, hb3⟩)
                    have hc3 := (hb3.cell hbl).trans hc
                    have hb03 := (hb3.cell hbl2).trans hb0
                    have HB3 := Lib.hid hb3
                    clear hb3 hc hb0 hb1
                    go_wp2
                    go_roundw
                    case rel => exact ⟨m + 1, Q ++ tt, by omega, by go_num, rfl, HSN.out, HLN, Lib.hid (below_step HBI.out HB3.out HBI.out.size)⟩
                    case measure => simp [intOf]; omega
                  · have h0b : ((o : Int) != 0) = true := by rw [bne_iff_ne]; omega
                    have HLN := Lib.hid (show ((Q ++ tt) ++ tx).data.toList = P.data.toList ++ jl 44 ((row.take (m + 1)).map btxt) by
                      rw [jl_first 44 btxt row m _ HBK.out HM0.out]
                      have hq := HQ.out
                      rw [jl_zero 44 btxt row m HM0.out] at hq
                      rw [show (btxt (o, tx)) = tt ++ tx by rw [HTT.out]; rfl]
                      simp only [data_app, hq, lit_list44, List.append_nil, List.append_assoc, List.cons_append, List.nil_append])
                    have HSN := Lib.hid (show ((Q ++ tt) ++ tx).size ≤ P.size + 1000010 * (m + 1) by
                      have h44 : (⟨#[44]⟩ : ByteArray).size = 1 := rfl
                      simp only [ByteArray.size_append, h44]; omega)
                    clear h0
                    go_upto_region 17 with (go_at_call 115; refine (HSG.out _).mono ?_; rintro e w3 ⟨rfl, hb3⟩)
                    have hc3 := (hb3.cell hbl).trans hc
                    have hb03 := (hb3.cell hbl2).trans hb0
                    have hb13 : w3.cell? ⟨(ad2.add (m * 2)).block, (ad2.add (m * 2)).off + 1, none⟩ = some (.string tx) := (hb3.cell (p := ⟨(ad2.add (m * 2)).block, (ad2.add (m * 2)).off + 1, none⟩) hbl2).trans hb1
                    have HB3 := Lib.hid hb3
                    clear hb3 hc hb0 hb1
                    go_wp2
                    go_roundw
                    case rel => exact ⟨m + 1, (Q ++ tt) ++ tx, by omega, by go_num, rfl, HSN.out, HLN, Lib.hid (below_step HBI.out HB3.out HBI.out.size)⟩
                    case measure => simp [intOf]; omega
                · have hmz : (m : Int) > 0 := by omega
                  have HM0 := Lib.hid h0m
                  clear h0m

                  by_cases h0 : o = 0
                  · have htx : tx.size = 0 := by have := HMB.out; rw [h0, mayB_zero] at this; simpa using this
                    have HLN := Lib.hid (show ((Q ++ ⟨#[44]⟩) ++ tt).data.toList = P.data.toList ++ jl 44 ((row.take (m + 1)).map btxt) by
                      rw [jl_next 44 btxt row m _ HBK.out HM0.out]
                      have hq := HQ.out
                      skip
                      rw [show (btxt (o, tx)) = tt ++ tx by rw [HTT.out]; rfl]
                      simp only [data_app, hq, nil_of tx htx, lit_list44, List.append_nil, List.append_assoc, List.cons_append, List.nil_append])
                    have HSN := Lib.hid (show ((Q ++ ⟨#[44]⟩) ++ tt).size ≤ P.size + 1000010 * (m + 1) by
                      have h44 : (⟨#[44]⟩ : ByteArray).size = 1 := rfl
                      simp only [ByteArray.size_append, h44]; omega)
                    have h0b : ((o : Int) != 0) = false := by rw [h0]; rfl
                    have HH0 := Lib.hid h0
                    clear h0 htx
                    go_upto_region 17 with (go_at_call 115; refine (HSG.out _).mono ?_; rintro e w3 ⟨rfl, hb3⟩)
                    have hc3 := (hb3.cell hbl).trans hc
                    have hb03 := (hb3.cell hbl2).trans hb0
                    have HB3 := Lib.hid hb3
                    clear hb3 hc hb0 hb1
                    go_wp2
                    go_roundw
                    case rel => exact ⟨m + 1, (Q ++ ⟨#[44]⟩) ++ tt, by omega, by go_num, rfl, HSN.out, HLN, Lib.hid (below_step HBI.out HB3.out HBI.out.size)⟩
                    case measure => simp [intOf]; omega
                  · have h0b : ((o : Int) != 0) = true := by rw [bne_iff_ne]; omega
                    have HLN := Lib.hid (show (((Q ++ ⟨#[44]⟩) ++ tt) ++ tx).data.toList = P.data.toList ++ jl 44 ((row.take (m + 1)).map btxt) by
                      rw [jl_next 44 btxt row m _ HBK.out HM0.out]
                      have hq := HQ.out
                      skip
                      rw [show (btxt (o, tx)) = tt ++ tx by rw [HTT.out]; rfl]
                      simp only [data_app, hq, lit_list44, List.append_nil, List.append_assoc, List.cons_append, List.nil_append])
                    have HSN := Lib.hid (show (((Q ++ ⟨#[44]⟩) ++ tt) ++ tx).size ≤ P.size + 1000010 * (m + 1) by
                      have h44 : (⟨#[44]⟩ : ByteArray).size = 1 := rfl
                      simp only [ByteArray.size_append, h44]; omega)
                    clear h0
                    go_upto_region 17 with (go_at_call 115; refine (HSG.out _).mono ?_; rintro e w3 ⟨rfl, hb3⟩)
                    have hc3 := (hb3.cell hbl).trans hc
                    have hb03 := (hb3.cell hbl2).trans hb0
                    have hb13 : w3.cell? ⟨(ad2.add (m * 2)).block, (ad2.add (m * 2)).off + 1, none⟩ = some (.string tx) := (hb3.cell (p := ⟨(ad2.add (m * 2)).block, (ad2.add (m * 2)).off + 1, none⟩) hbl2).trans hb1
                    have HB3 := Lib.hid hb3
                    clear hb3 hc hb0 hb1
                    go_wp2
                    go_roundw
                    case rel => exact ⟨m + 1, ((Q ++ ⟨#[44]⟩) ++ tt) ++ tx, by omega, by go_num, rfl, HSN.out, HLN, Lib.hid (below_step HBI.out HB3.out HBI.out.size)⟩
                    case measure => simp [intOf]; omega
              · have hmtI : ¬ (m : Int) < (row.length : Int) := by omega
                have hqe : Q.data.toList = P.data.toList ++ (rowTxt row).data.toList := by
                  have := HQ.out
                  rw [show m = row.length by omega, List.take_length] at this
                  rw [this]; unfold rowTxt; rw [jnB_list]
                have HNX := Lib.hid (HP.out Q hqe)
                have HBX := Lib.hid (below_step HB.out HBI.out HB.out.size)
                have hQz2 : Q.size ≤ 17000200 * (k + 1) := by omega
                clear hqe
                go_wp2
                go_roundw
                case rel => exact ⟨k + 1, Q, by omega, by go_num, rfl, hQz2, HNX, HBX⟩
                case measure => simp [intOf]; omega
        · have hke : k = r.length := by omega
          have hltI : ¬ (k : Int) < (r.length : Int) := by omega
          have HN := Lib.hid (show S = prS r by
            refine str_ext ?_
            rw [HF2.out, jnB_list, HS.out, hke, List.take_length])
          clear hke
          go_wp2
          go_ret2
          exact ⟨ret_txt HN.out HF.out.2.symm, HBW.out⟩
end Go.Proofs.YtcnedecmmplmoaaGreatDoor
