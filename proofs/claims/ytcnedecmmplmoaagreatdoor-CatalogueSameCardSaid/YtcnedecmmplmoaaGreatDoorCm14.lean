/- Contract of ranges.Print. -/
import Derived.Test.YtcnedecmmplmoaaGreatDoorCm13
set_option linter.unusedVariables false
set_option linter.unusedSimpArgs false
namespace Go.Proofs.YtcnedecmmplmoaaGreatDoor
open Go.RowKit Go.BigFrame
open Ver (cmpV BL parts)

def btxt (b : Bd) : ByteArray := sgnB b.1 ++ b.2
def jnB (c : UInt8) (xs : List ByteArray) : ByteArray := ⟨(List.intercalate [c] (xs.map (·.data.toList))).toArray⟩
def rowTxt (row : List Bd) : ByteArray := jnB 44 (row.map btxt)
def printB (r : List (List Bd)) : ByteArray := if r.length = 0 then ⟨#[42]⟩ else jnB 124 (r.map rowTxt)
def prS (r : List (List Bd)) : ByteArray := if mayR r = true then printB r else ⟨#[]⟩
def prE (r : List (List Bd)) : Int := if mayR r = true then 0 else 2
theorem infoStr : (Tryz.prog.info? 9).map (fun i => (i.zero, i.size, i.bytes)) = some (some (.string ⟨#[]⟩), 1, 16) := by kernel_rfl
theorem inter_le (c : UInt8) (M : Nat) : ∀ ps : List BL, (∀ p ∈ ps, p.length ≤ M) → (List.intercalate [c] ps).length ≤ ps.length * (M + 1)
  | [], _ => by simp [List.intercalate]
  | [p], h => by rw [Ver.inter_one]; have := h p (by simp); simp; omega
  | p :: q :: ps, h => by
    rw [Ver.inter_cons2, List.length_append, List.length_cons]
    have h1 := inter_le c M (q :: ps) fun r hr => h r (by simp [hr])
    have h2 := h p (by simp)
    simp only [List.length_cons, Nat.succ_mul] at *
    omega
theorem jn_le (c : UInt8) (M : Nat) (xs : List ByteArray) (h : ∀ x ∈ xs, x.size ≤ M) : (jnB c xs).size ≤ xs.length * (M + 1) := by
  unfold jnB
  rw [size_of]
  have := inter_le c M (xs.map (·.data.toList)) fun p hp => by
    obtain ⟨x, hx, rfl⟩ := List.mem_map.1 hp
    rw [len_data]; exact h x hx
  rwa [List.length_map] at this
theorem join_own (c : UInt8) (M : Nat) (v : Value) (base n : Nat) (xs : List ByteArray) (w : World) (hM : M ≤ 100000000) (h : ∀ x ∈ xs, x.size ≤ M) (hn0 : xs.length = n) (hn : 1 ≤ n) (hn2 : n ≤ 1000) (hown : w.ownsRow base 9 1 v n (strs xs)) :
    Calls Tryz.prog 63 #[v, .string ⟨#[c]⟩] w fun e w' => e = .returned (.string (jnB c xs)) ∧ Below w.heap.size w w' := by
  subst hn0
  rcases hown.2 with ⟨_, e⟩ | ⟨g, cap, cur, rfl, hg, hgg, hnc, hcm, hcs, htake⟩
  · omega
  · have hc := Tryz.strings_Join g 0 cap xs ⟨#[c]⟩ w (fun j x hj => by
      have h1 : (strs xs)[j]? = some (.string x) := by unfold strs; rw [List.getElem?_map, hj]; rfl
      have := hown.cells (g := g) rfl j _ h1
      rwa [show (⟨g, 0, none⟩ : Addr).add j = ⟨g, 0 + j, none⟩ by unfold Addr.add; by_cases h0 : j = 0 <;> simp [h0]] at this) (block_lt hgg) (by omega) (by omega) (by
        have h2 := jn_le c M xs h
        unfold jnB at h2
        rw [size_of] at h2
        have h3 : xs.length * (M + 1) ≤ 1000 * (100000000 + 1) := Nat.mul_le_mul hn2 (by omega)
        show (List.intercalate [c] (xs.map (·.data.toList))).length ≤ _
        omega)
    exact hc
theorem strs_snoc (l : List ByteArray) (x : ByteArray) : strs (l ++ [x]) = strs l ++ [.string x] := by simp [strs]
theorem app_size (a b : ByteArray) : (a ++ b).size = a.size + b.size := by simp
theorem sgnB_le (o : Nat) : (sgnB o).size ≤ 2 := by unfold sgnB; rw [size_of]; unfold Rng.sgnL; split <;> decide
theorem btxt_le (b : Bd) (h : b.2.size ≤ 1000000) : (btxt b).size ≤ 1000002 := by
  unfold btxt
  rw [app_size]
  have := sgnB_le b.1
  omega
theorem rowTxt_le (row : List Bd) (h : ∀ b ∈ row, b.2.size ≤ 1000000) (hl : row.length ≤ 16) : (rowTxt row).size ≤ 20000000 := by
  have h1 := jn_le 44 1000002 (row.map btxt) fun x hx => by
    obtain ⟨b, hb, rfl⟩ := List.mem_map.1 hx; exact btxt_le b (h b hb)
  rw [List.length_map] at h1
  have h2 : row.length * (1000002 + 1) ≤ 16 * (1000002 + 1) := Nat.mul_le_mul_right _ hl
  unfold rowTxt
  omega
theorem sign_star (w : World) : Calls Tryz.prog 97 #[.int .u8 0] w fun e w' => e = .returned (.string ⟨#[42]⟩) ∧ w' = w := sign_any 0 (by omega) w
set_option maxRecDepth 100000 in
set_option maxHeartbeats 800000 in
theorem print_any (r : List (List Bd)) (v : Value) (w : World) (h : RngAt w v r) (hsz : Short r) :
    Calls Tryz.prog 65 #[v] w fun e w' => e = .returned (.tuple #[.string (prS r), .int .i64 (prE r)]) ∧ Below w.heap.size w w' := by
  cases hm : mayR r
  · have HT := Lib.hid (tests_no r v w h hsz hm)
    have HF := Lib.hid (show prS r = ⟨#[]⟩ ∧ prE r = 2 by unfold prS prE; rw [hm]; exact ⟨rfl, rfl⟩)
    clear h hm hsz
    go_enter Tryz.func65, Tryz.ntmps65
    go_wp2_with (go_at_call 83; refine HT.out.mono ?_; rintro e w2 ⟨rfl, hb2⟩)
    go_ret2
    exact ⟨by rw [HF.out.1, HF.out.2]; rfl, hb2⟩
  · have HT := Lib.hid (tests_yes r v w h hsz hm)
    have HF := Lib.hid (show prS r = printB r ∧ prE r = 0 by unfold prS prE; rw [hm]; exact ⟨rfl, rfl⟩)
    have HR := Lib.hid h
    have HSZ := Lib.hid hsz
    obtain ⟨A, cap, rfl, hcl, hcm⟩ := h.form
    have HMA := Lib.hid (may_all r hm)
    have HML := Lib.hid (show r.length ≤ 16 ∧ ∀ row ∈ r, 1 ≤ row.length ∧ row.length ≤ 16 by
      unfold mayR at hm
      simp only [Bool.and_eq_true, decide_eq_true_eq] at hm
      refine ⟨hm.1, fun row hr => ?_⟩
      have := List.all_eq_true.1 hm.2 row hr
      unfold mayRow at this
      simp only [Bool.and_eq_true, decide_eq_true_eq] at this
      exact this.1)
    clear h hm hsz
    unfold maxLen at hcm
    by_cases h0 : r.length = 0
    · have h0I : ((r.length : Int) == 0) = true := by rw [h0]; rfl
      have HF2 := Lib.hid (show prS r = ⟨#[42]⟩ by rw [HF.out.1]; unfold printB; rw [if_pos h0])
      clear h0
      go_enter Tryz.func65, Tryz.ntmps65
      go_wp2_with (first | (go_at_call 83; refine HT.out.mono ?_; rintro e w2 ⟨u, rfl, hu, hb2⟩; clear hu) | (go_at_call 97; refine (sign_star _).mono ?_; rintro e w3 ⟨rfl, rfl⟩))
      go_ret2
      exact ⟨by rw [HF2.out, HF.out.2]; rfl, hb2⟩
    · have h0I : ((r.length : Int) == 0) = false := by rw [beq_eq_false_iff_ne]; omega
      have HF2 := Lib.hid (show prS r = jnB 124 (r.map rowTxt) by rw [HF.out.1]; unfold printB; rw [if_neg h0])
      obtain ⟨i0, hi, hz0, hz1, hz2⟩ := info_parts infoStr
      have HI := Lib.hid hi
      have HZ0 := Lib.hid hz0
      have HZ1 := Lib.hid hz1
      have HZ2 := Lib.hid hz2
      clear hi hz0 hz1 hz2
      go_enter Tryz.func65, Tryz.ntmps65
      go_wp2_with (go_at_call 83; refine HT.out.mono ?_; rintro e w2 ⟨u, rfl, hu, hb2⟩; clear hu)
      have HB2 := Lib.hid hb2
      clear hb2
      go_loopw [6, 25] (fun rv i wr => ∃ (k : Nat), k ≤ r.length ∧ i = .int .i64 (k : Int) ∧ Hid (wr.ownsRow w2.heap.size 9 1 rv k (strs ((r.take k).map rowTxt))) ∧ Hid (Below w2.heap.size w2 wr)) (fun _ i _ => r.length - (intOf i).toNat)
      case atStart => exact ⟨0, by omega, rfl, Lib.hid (World.ownsRow_nil _ _ _ _), Lib.hid (Below.refl _ _)⟩
      case round =>
        obtain ⟨k, hk, rfl, HOWN, HB⟩ := hrel
        obtain ⟨A1, cap1, rfl⟩ := own_form HOWN.out
        have hbw := below_step HB2.out HB.out HB2.out.size
        have HBW := Lib.hid hbw
        clear hbw
        by_cases hlt : k < r.length
        · have hltI : (k : Int) < (r.length : Int) := by omega
          have hk0 : (0 : Int) ≤ (k : Int) := by omega
          obtain ⟨ad, u, rfl, hc, hrow⟩ := (HR.out.below HBW.out).get k hlt
          obtain ⟨row, hrw⟩ : ∃ row, row = r.getD k default := ⟨_, rfl⟩
          rw [← hrw] at hrow
          have HRK := Lib.hid (show r[k]? = some row by rw [hrw]; exact getD_get r k _ hlt)
          have HSR := Lib.hid (show ∀ b ∈ row, b.2.size ≤ 1000000 from HSZ.out row (List.mem_of_getElem? HRK.out))
          have HMR := Lib.hid (show ∀ b ∈ row, mayB b = true from HMA.out row (List.mem_of_getElem? HRK.out))
          have hrl := HML.out.2 row (List.mem_of_getElem? HRK.out)
          obtain ⟨A2, cap2, rfl, hcl2, hcm2⟩ := RdS.form hrow
          have HROW := Lib.hid hrow
          clear hrow hrw
          unfold maxLen at hcm2
          go_wp2
          obtain ⟨wo, hwo⟩ : ∃ wo : World, wo = wr := ⟨_, rfl⟩
          rw [← hwo] at HOWN HB HBW hc HROW ⊢
          clear hwo wr
          go_loopw [9, 31] (fun lv j wq => ∃ (m : Nat), m ≤ row.length ∧ j = .int .i64 (m : Int) ∧ Hid (wq.ownsRow wo.heap.size 9 1 lv m (strs ((row.take m).map btxt))) ∧ Hid (Below wo.heap.size wo wq)) (fun _ j _ => row.length - (intOf j).toNat)
          case atStart => exact ⟨0, by omega, rfl, Lib.hid (World.ownsRow_nil _ _ _ _), Lib.hid (Below.refl _ _)⟩
          case round =>
            obtain ⟨m, hm, rfl, HOWI, HBI⟩ := hrel
            obtain ⟨A4, cap4, rfl⟩ := own_form HOWI.out
            by_cases hmt : m < row.length
            · have hmtI : (m : Int) < (row.length : Int) := by omega
              have hm0 : (0 : Int) ≤ (m : Int) := by omega
              obtain ⟨ad2, rfl, hbc⟩ := BRow.get (RdS.below HROW.out HBI.out) m hmt
              obtain ⟨b, hbb⟩ : ∃ b, b = row.getD m default := ⟨_, rfl⟩
              rw [← hbb] at hbc
              have HBK := Lib.hid (show row[m]? = some b by rw [hbb]; exact getD_get row m _ hmt)
              have ho7 := mayB_le b (HMR.out b (List.mem_of_getElem? HBK.out))
              clear hbb
              obtain ⟨o, tx⟩ := b
              dsimp only at ho7
              have hb0 : wr.cell? (ad2.add (m * 2)) = some (.int .u8 (o : Int)) := by have := hbc 0 _ rfl; simpa [add_add] using this
              have hb1 : wr.cell? ⟨(ad2.add (m * 2)).block, (ad2.add (m * 2)).off + 1, none⟩ = some (.string tx) := hbc 1 _ rfl
              clear hbc
              go_upto_region 14 with (fail)
              obtain ⟨WX, hWX, hgX, hqX, hzX, hBX⟩ := row_at wo wr (.cells #[.int .u8 (o : Int), .string tx] 57) HBI.out
              rw [← hWX]
              clear hWX hb0 hb1
              obtain ⟨hx0, hx1, _, _⟩ := cell_two hgX
              have hlX := block_lt hgX
              have HSG := Lib.hid (sign_any o ho7)
              have HOWX := Lib.hid (own_below HOWI.out hqX (Nat.le_refl _))
              have HLT := Lib.hid (fun g (hg : (Value.slice A4 m cap4).ownBlock = some g) => HOWI.out.lt g hg)
              have HQX := Lib.hid hqX
              have HZX := Lib.hid hzX
              have HBI2 := Lib.hid hBX
              have HBASE := Lib.hid (show wo.heap.size ≤ WX.heap.size by have := HBI.out.size; omega)
              obtain ⟨tt, htt⟩ : ∃ tt, tt = sgnB o := ⟨_, rfl⟩
              rw [← htt] at HSG
              have htz : (tt.size : Int) ≤ 8388608 := by have := sgnB_le o; rw [htt]; omega
              have hxz : (tx.size : Int) ≤ 8388608 := by have : tx.size ≤ 1000000 := HSR.out (o, tx) (List.mem_of_getElem? HBK.out); omega
              have hno : ¬ 9223372036854775807 < tt.size + tx.size := by omega
              have HCG := Lib.hid (fun (wb : World) (ob : Obj) (hg : ((WX.alloc ob).drew).grownBy wb (Value.slice A4 m cap4).ownBlock) => (show wb.cell? ⟨wr.heap.size, 0, none⟩ = some (.int .u8 (o : Int)) ∧ wb.cell? ⟨wr.heap.size, 1, none⟩ = some (.string tx) from
                ⟨cell_grown ((((Below.refl WX.heap.size WX).alloc (Nat.le_refl _) ob).drew.cell (p := ⟨wr.heap.size, 0, none⟩) hlX).trans hx0) hg (fun e => by have := (HLT.out _ e).2; omega), cell_grown ((((Below.refl WX.heap.size WX).alloc (Nat.le_refl _) ob).drew.cell (p := ⟨wr.heap.size, 1, none⟩) hlX).trans hx1) hg (fun e => by have := (HLT.out _ e).2; omega)⟩))
              have HTT := Lib.hid htt
              clear htt hgX hqX hzX hBX
              go_region_held3 (fun w' => w'.cell? ⟨wr.heap.size, 0, none⟩ = some (.int .u8 (o : Int)) ∧ w'.cell? ⟨wr.heap.size, 1, none⟩ = some (.string tx)) (first | go_keep | exact HCG.out _ _ hgrow5) (first | (go_at_call 97; refine (HSG.out _).mono ?_; rintro e w4 ⟨rfl, rfl⟩) | (refine step_append_lies _ (by rfl) _ _ _ (by rfl) wo.heap.size 9 i0 _ 1 16 Tryz.underlying55 HI.out HZ0.out HZ1.out HZ2.out rfl (by omega) (Value.slice A4 m cap4) m _ (by rfl) ((HOWX.out.alloc _).drew) ⟨WX.heap.size, 0, none⟩ 1 1 [.string (tt ++ tx)] (by rfl) (by rfl) (World.news_of_block (cs := #[.string (tt ++ tx)]) (t := 9) (fr := (0, 0)) (heap_alloc_new WX _)) (by simp [Value.oneCell']) (by omega) (by unfold maxLen; omega) (by omega) (by have := HBASE.out; simp; omega) (WX.heap.size + 1) (by simp) ?_; intro gg cap5 w5 hown5 hgrow5 hat5 hlt5))
              all_goals
                have hbw5 : Below wr.heap.size wr ((WX.alloc (.cells #[.string (tt ++ tx)] 9)).drew) := (HQX.out.alloc HQX.out.size _).drew
                have hbf := (below_step HBI.out hbw5 HBI.out.size).grown hgrow5 (Nat.le_trans HBI.out.size hbw5.size) fun g hg => (HLT.out g hg).1
                rw [show strs ((row.take m).map btxt) ++ [.string (tt ++ tx)] = strs ((row.take (m + 1)).map btxt) by rw [take_map_next btxt row m _ HBK.out, strs_snoc, HTT.out]; rfl] at hown5
                have HR1 := Lib.hid hown5
                have HR5 := Lib.hid hbf
                clear hown5 hbf hbw5 hgrow5 hat5 hlt5
                go_wp2_with fail
                go_roundw
                case rel => exact ⟨m + 1, by omega, by go_num, HR1, HR5⟩
                case measure => simp [intOf]; omega
            · have hme : m = row.length := by omega
              subst hme
              have hmtI : ¬ (row.length : Int) < (row.length : Int) := by omega
              have howi := HOWI.out
              rw [List.take_length] at howi
              have HJ := Lib.hid (join_own 44 1000002 _ _ row.length (row.map btxt) wr (by omega) (fun x hx => by
                obtain ⟨b, hb, rfl⟩ := List.mem_map.1 hx; exact btxt_le b (HSR.out b hb)) (by simp) hrl.1 (by omega) howi)
              rw [show jnB 44 (row.map btxt) = rowTxt row from rfl] at HJ
              obtain ⟨tt, htt⟩ : ∃ tt, tt = rowTxt row := ⟨_, rfl⟩
              rw [← htt] at HJ
              have HTT := Lib.hid htt
              clear howi htt
              go_wp2_with fail
              refine HJ.out.mono ?_
              rintro e w3 ⟨rfl, hb3⟩
              have hb03 : Below wo.heap.size wo w3 := below_step HBI.out hb3 HBI.out.size
              have HOW3 := Lib.hid (own_below HOWN.out hb03 (Nat.le_refl _))
              have HB3 := Lib.hid (below_step HB.out hb03 HB.out.size)
              have HSZ3 := Lib.hid (Nat.le_trans HB.out.size hb03.size)
              clear hb3 hb03
              go_wp2_with (at_builtin; refine wpList_app rfl _ _ 55 rfl w2.heap.size 9 i0 (.string ⟨#[]⟩) 16 Tryz.underlying55 HI.out HZ0.out HZ1.out HZ2.out rfl _ k _ rfl (HOW3.out.alloc _) ⟨w3.heap.size, 0, none⟩ 1 1 [.string tt] rfl rfl ?c1 ?c2 ?c3 ?c4 ?c5 ?_)
              case c1 => intro j u hu; exact row_cells (heap_alloc_new _ _) j u (by simpa using hu)
              case c2 => simp [Value.oneCell']
              case c3 => unfold maxLen; omega
              case c4 => have := HML.out.1; omega
              case c5 => have := HSZ3.out; simp; omega
              intro v' w6 hown6 hgrow6 hmov6
              obtain ⟨A6, cap6, rfl⟩ := own_form hown6
              have HR5 := Lib.hid ((HB3.out.alloc HSZ3.out (.cells #[.string tt] 9)).grown hgrow6 (by have := HSZ3.out; simp; omega) fun g hg => (HOW3.out.lt g hg).1)
              have HR1 := Lib.hid (show w6.ownsRow w2.heap.size 9 1 (.slice A6 (k + 1) cap6) (k + 1) (strs ((r.take (k + 1)).map rowTxt)) by
                rw [take_map_next rowTxt r k _ HRK.out, strs_snoc, ← HTT.out]
                first | exact hown6 | (rw [List.map_take]; exact hown6))
              clear hown6 hgrow6 hmov6
              go_wp2
              go_roundw
              case rel => exact ⟨k + 1, by omega, by go_num, HR1, HR5⟩
              case measure => simp [intOf]; omega
        · have hke : k = r.length := by omega
          subst hke
          have hown := HOWN.out
          rw [List.take_length] at hown
          have HJ := Lib.hid (join_own 124 20000000 _ _ r.length (r.map rowTxt) wr (by omega) (fun x hx => by
            obtain ⟨row, hr, rfl⟩ := List.mem_map.1 hx; exact rowTxt_le row (HSZ.out row hr) (HML.out.2 row hr).2) (by simp) (by omega) (by have := HML.out.1; omega) hown)
          rw [← HF2.out] at HJ
          clear hown h0
          go_wp2_with fail
          refine HJ.out.mono ?_
          rintro e w3 ⟨rfl, hb3⟩
          go_wp2
          go_ret2
          exact ⟨by rw [HF.out.2]; rfl, below_step HBW.out hb3 HBW.out.size⟩
end Go.Proofs.YtcnedecmmplmoaaGreatDoor

/- Contracts of the reference's sign, split. -/
namespace Go.Proofs.YtcnedecmmplmoaaGreatDoor
open Go.RowKit Go.BigFrame
open Ver (cmpV BL parts)

set_option maxRecDepth 100000 in
set_option maxHeartbeats 800000 in
theorem rsign_any (o : Nat) (h : o ≤ 7) (w : World) : Calls Tryz.prog 115 #[.int .u8 (o : Int)] w fun e w' => e = .returned (.string (sgnB o)) ∧ Below w.heap.size w w' := by
  have h0 : (0 : Int) ≤ (o : Int) := by omega
  have h8 : (o : Int) < 8 := by omega
  have HC := Lib.hid (fun (W : World) (hW : W = w.alloc (.cells #[.string ⟨#[42]⟩, .string ⟨#[61]⟩, .string ⟨#[33, 61]⟩, .string ⟨#[60]⟩, .string ⟨#[60, 61]⟩, .string ⟨#[62]⟩, .string ⟨#[62, 61]⟩, .string ⟨#[126]⟩] 9)) => (show W.cell? ⟨w.heap.size, o, none⟩ = some (.string (sgnB o)) by
    rw [hW, cell_of_row _ _ _ _ _ _ (heap_alloc_new w _)]
    rcases op_cases o h with rfl | rfl | rfl | rfl | rfl | rfl | rfl | rfl <;> rfl))
  obtain ⟨tt, htt⟩ : ∃ tt, tt = sgnB o := ⟨_, rfl⟩
  rw [← htt] at HC ⊢
  clear htt
  have hc := HC.out _ rfl
  go_enter Tryz.func115, Tryz.ntmps115
  go_wp2
  go_ret
  exact ⟨rfl, (Below.refl _ _).alloc (Nat.le_refl _) _⟩
/-- No c between from and i, and what is left. -/
theorem split_skip (c : UInt8) (l : BL) (f i : Nat) (hf : f ≤ i) (h : c ∉ (l.take i).drop f) (x : UInt8) (hx : l[i]? = some x) (hne : x ≠ c) : c ∉ (l.take (i + 1)).drop f := by
  rw [take_next l i x hx, List.drop_append_of_le_length (by have := (List.getElem?_eq_some_iff.1 hx).1; rw [List.length_take]; omega)]
  simp only [List.mem_append, List.mem_singleton, not_or]
  exact ⟨h, Ne.symm hne⟩
theorem parts_cut (c : UInt8) (a r : BL) (h : c ∉ a) : parts c (a ++ c :: r) = a :: parts c r := by
  have hb := Ver.brk_app c a r h
  rw [Ver.parts_brk_yes c _ (by rw [hb]), hb]
theorem split_hit (c : UInt8) (l : BL) (f i : Nat) (hf : f ≤ i) (h : c ∉ (l.take i).drop f) (hx : l[i]? = some c) : parts c (l.drop f) = (l.take i).drop f :: parts c (l.drop (i + 1)) := by
  obtain ⟨hl, e⟩ := List.getElem?_eq_some_iff.1 hx
  have e2 : l.drop f = (l.take i).drop f ++ c :: l.drop (i + 1) := by
    conv => lhs; rw [← List.take_append_drop i l]
    rw [List.drop_append_of_le_length (by rw [List.length_take]; omega), List.drop_eq_getElem_cons hl, e]
  rw [e2, parts_cut c _ _ h]
theorem split_end (c : UInt8) (l : BL) (f : Nat) (h : c ∉ (l.take l.length).drop f) : parts c (l.drop f) = [(l.take l.length).drop f] := by
  rw [List.take_length] at *
  exact Ver.parts_not c _ h
theorem ext_list (s : ByteArray) (a b : Nat) : (s.extract a b).data.toList = (s.data.toList.take b).drop a := by simp [List.drop_take]
theorem data_inj : ∀ (a b : List ByteArray), a.map (·.data.toList) = b.map (·.data.toList) → a = b
  | [], [], _ => rfl
  | [], _ :: _, h => by simp at h
  | _ :: _, [], h => by simp at h
  | x :: a, y :: b, h => by
    simp only [List.map_cons, List.cons.injEq] at h
    rw [str_ext h.1, data_inj a b h.2]
set_option maxRecDepth 100000 in
set_option maxHeartbeats 1000000 in
theorem rsplit_any (c : UInt8) (s : ByteArray) (w : World) (hs : s.size ≤ 1000000) :
    Calls Tryz.prog 89 #[.string s, .int .u8 (c.toNat : Int)] w fun e w' => ∃ v, e = .returned v ∧ RdS w' AllB v (piecesB c s).length (strs (piecesB c s)) ∧ Below w.heap.size w w' := by
  obtain ⟨i0, hi, hz0, hz1, hz2⟩ := info_parts infoStr
  have HI := Lib.hid hi
  have HZ0 := Lib.hid hz0
  have HZ1 := Lib.hid hz1
  have HZ2 := Lib.hid hz2
  have HP := Lib.hid (pieces_data c s)
  clear hi hz0 hz1 hz2
  go_enter Tryz.func89, Tryz.ntmps89
  go_wp2
  go_loopw [5, 6, 7] (fun lv fv iv wr => ∃ (i f : Nat) (done : List ByteArray), f ≤ i ∧ i ≤ s.size + 1 ∧ fv = .int .i64 (f : Int) ∧ iv = .int .i64 (i : Int) ∧ done.length ≤ i ∧
      Hid (i ≤ s.size → done.map (·.data.toList) ++ parts c (s.data.toList.drop f) = parts c s.data.toList ∧ c ∉ (s.data.toList.take i).drop f) ∧ Hid (s.size < i → done.map (·.data.toList) = parts c s.data.toList) ∧
      Hid (wr.ownsRow w.heap.size 9 1 lv done.length (strs done)) ∧ Hid (Below w.heap.size w wr)) (fun _ _ iv _ => s.size + 1 - (intOf iv).toNat)
  case atStart => exact ⟨0, 0, [], Nat.le_refl _, by omega, rfl, rfl, Nat.le_refl _, Lib.hid (fun _ => ⟨rfl, by simp⟩), Lib.hid (fun h => by omega), Lib.hid (World.ownsRow_nil _ _ _ _), Lib.hid (Below.refl _ _)⟩
  case round =>
    obtain ⟨i, f, done, hf, hi, rfl, rfl, hdl, HA, HE, HOWN, HB⟩ := hrel
    obtain ⟨A1, cap1, rfl⟩ := own_form HOWN.out
    have hw1 : IntKind.i64.wrap ((i : Int) + 1) = (i : Int) + 1 := IntWalk.i64_in _ (by omega)
    have hf0 : (0 : Int) ≤ (f : Int) := by omega
    have hfi : (f : Int) ≤ (i : Int) := by omega
    by_cases hle : i ≤ s.size
    · have hleI : (i : Int) ≤ (s.size : Int) := by omega
      obtain ⟨HA1, HA2⟩ := HA.out hle
      by_cases hend : i = s.size
      · subst hend
        have HN := Lib.hid (show (done ++ [s.extract f s.size]).map (·.data.toList) = parts c s.data.toList by
          rw [← HA1, split_end c _ f (by rw [len_data]; exact HA2), List.map_append, List.map_cons, List.map_nil, ext_list, len_data])
        clear HA HA1 HA2
        go_wp2_with (at_builtin; refine wpList_app rfl _ _ 55 rfl w.heap.size 9 i0 (.string ⟨#[]⟩) 16 Tryz.underlying55 HI.out HZ0.out HZ1.out HZ2.out rfl _ done.length _ rfl (HOWN.out.alloc _) ⟨wr.heap.size, 0, none⟩ 1 1 [.string (s.extract f s.size)] rfl rfl ?c1 ?c2 ?c3 ?c4 ?c5 ?_)
        case c1 => intro j u hu; exact row_cells (heap_alloc_new _ _) j u (by simpa using hu)
        case c2 => simp [Value.oneCell']
        case c3 => unfold maxLen; omega
        case c4 => omega
        case c5 => have := HB.out.size; simp; omega
        intro v' w6 hown6 hgrow6 hmov6
        obtain ⟨A6, cap6, rfl⟩ := own_form hown6
        have HR5 := Lib.hid ((HB.out.alloc HB.out.size (.cells #[.string (s.extract f s.size)] 9)).grown hgrow6 (by have := HB.out.size; simp; omega) fun g hg => (HOWN.out.lt g hg).1)
        have HR1 := Lib.hid (show w6.ownsRow w.heap.size 9 1 (.slice A6 (done.length + 1) cap6) (done ++ [s.extract f s.size]).length (strs (done ++ [s.extract f s.size])) by rw [List.length_append, strs_snoc]; exact hown6)
        clear hown6 hgrow6 hmov6
        go_wp2
        go_roundw
        case rel => exact ⟨s.size + 1, s.size + 1, done ++ [s.extract f s.size], Nat.le_refl _, by omega, by go_num, by go_num, by simp; omega, Lib.hid (fun h => by omega), Lib.hid (fun _ => HN.out), HR1, HR5⟩
        case measure => first | (simp [intOf]; done) | (simp [intOf]; omega)
      · have hlt : i < s.size := by omega
        have hltI : (i : Int) < (s.size : Int) := by omega
        have hneI : ((i : Int) == (s.size : Int)) = false := by rw [beq_eq_false_iff_ne]; omega
        have hget : s.data.toList[i]? = some s[i] := by
          rw [List.getElem?_eq_getElem (by rw [len_data]; exact hlt)]; rfl
        by_cases hc : (s[i].toNat : Int) = (c.toNat : Int)
        · have hcb : ((s[i].toNat : Int) == (c.toNat : Int)) = true := by rw [hc]; simp
          have hce : s[i] = c := UInt8.toNat_inj.1 (by omega)
          rw [hce] at hget
          have HN := Lib.hid (show (done ++ [s.extract f i]).map (·.data.toList) ++ parts c (s.data.toList.drop (i + 1)) = parts c s.data.toList by
            rw [← HA1, split_hit c _ f i hf HA2 hget, List.map_append, List.map_cons, List.map_nil, ext_list, List.append_assoc]; rfl)
          have HNN := Lib.hid (show c ∉ (s.data.toList.take (i + 1)).drop (i + 1) by rw [List.drop_take_self]; simp)
          clear HA HA1 HA2 hget hce
          go_wp2_with (at_builtin; refine wpList_app rfl _ _ 55 rfl w.heap.size 9 i0 (.string ⟨#[]⟩) 16 Tryz.underlying55 HI.out HZ0.out HZ1.out HZ2.out rfl _ done.length _ rfl (HOWN.out.alloc _) ⟨wr.heap.size, 0, none⟩ 1 1 [.string (s.extract f i)] rfl rfl ?c1 ?c2 ?c3 ?c4 ?c5 ?_)
          case c1 => intro j u hu; exact row_cells (heap_alloc_new _ _) j u (by simpa using hu)
          case c2 => simp [Value.oneCell']
          case c3 => unfold maxLen; omega
          case c4 => omega
          case c5 => have := HB.out.size; simp; omega
          intro v' w6 hown6 hgrow6 hmov6
          obtain ⟨A6, cap6, rfl⟩ := own_form hown6
          have HR5 := Lib.hid ((HB.out.alloc HB.out.size (.cells #[.string (s.extract f i)] 9)).grown hgrow6 (by have := HB.out.size; simp; omega) fun g hg => (HOWN.out.lt g hg).1)
          have HR1 := Lib.hid (show w6.ownsRow w.heap.size 9 1 (.slice A6 (done.length + 1) cap6) (done ++ [s.extract f i]).length (strs (done ++ [s.extract f i])) by rw [List.length_append, strs_snoc]; exact hown6)
          clear hown6 hgrow6 hmov6
          go_wp2
          go_roundw
          case rel => exact ⟨i + 1, i + 1, done ++ [s.extract f i], Nat.le_refl _, by omega, by go_num, by go_num, by simp; omega, Lib.hid (fun _ => ⟨HN.out, HNN.out⟩), Lib.hid (fun h => by omega), HR1, HR5⟩
          case measure => simp [intOf]; omega
        · have hcb : ((s[i].toNat : Int) == (c.toNat : Int)) = false := by rw [beq_eq_false_iff_ne]; exact hc
          have hce : s[i] ≠ c := fun e => hc (by rw [e])
          have HNN := Lib.hid (split_skip c _ f i hf HA2 _ hget hce)
          have HA1' := Lib.hid HA1
          clear HA HA1 HA2 hget hce
          go_wp2
          go_roundw
          case rel => exact ⟨i + 1, f, done, by omega, by omega, rfl, by go_num, by omega, Lib.hid (fun _ => ⟨HA1'.out, HNN.out⟩), Lib.hid (fun h => by omega), HOWN, HB⟩
          case measure => simp [intOf]; omega
    · have hleI : ¬ (i : Int) ≤ (s.size : Int) := by omega
      have hde : done = piecesB c s := data_inj _ _ ((HE.out (by omega)).trans HP.out.symm)
      have HRD := Lib.hid (RdS.own HOWN.out).all
      have HDE := Lib.hid hde
      clear hde
      go_wp2
      go_ret
      exact ⟨_, rfl, by rw [← HDE.out]; exact HRD.out, HB.out⟩
end Go.Proofs.YtcnedecmmplmoaaGreatDoor
