/- Printed and parsed again: plain maths of rows of texts. -/
import Derived.Test.YtjckcdemkpmheaaDoorRngAf
namespace Go.Proofs.YtjckcdemkpmheaaDoor
open Go.RowKit Go.BigFrame
open Ver (cmpV BL parts)

theorem btxt_list (b : Bd) : (btxt b).data.toList = Rng.prtB (bdL b) := by
  unfold btxt Rng.prtB bdL
  rw [data_app, sgnB_list]
theorem btxt_raw (x : ByteArray) (h : mayB (rawB x) = true) : btxt (rawB x) = x := by
  refine str_ext ?_
  rw [mayB_raw] at h
  rw [btxt_list]
  unfold rawB
  rw [bdL_of, Rng.raw_prt _ h]
theorem raw_btxt (b : Bd) (h : mayB b = true) : rawB (btxt b) = b := by
  unfold mayB at h
  unfold rawB
  rw [btxt_list, Rng.prt_raw _ h, bdOf_L]
theorem map_id_of {α : Type} (f : α → α) (l : List α) (h : ∀ x ∈ l, f x = x) : l.map f = l := by
  conv => rhs; rw [← List.map_id l]
  exact List.map_congr_left fun x hx => by rw [h x hx]; rfl
theorem pieces_join (c : UInt8) (s : ByteArray) : jnB c (piecesB c s) = s := by
  refine str_ext ?_
  rw [jnB_list]
  unfold jl
  rw [pieces_data, Ver.inter_parts]
theorem join_pieces (c : UInt8) (xs : List ByteArray) (h0 : xs ≠ []) (h : ∀ x ∈ xs, c ∉ x.data.toList) : piecesB c (jnB c xs) = xs := by
  refine data_inj _ _ ?_
  rw [pieces_data, jnB_list]
  unfold jl
  cases xs with
  | nil => exact absurd rfl h0
  | cons x xs =>
    rw [List.map_cons]
    refine Ver.parts_inter c _ _ (h x (by simp)) fun q hq => ?_
    obtain ⟨y, hy, rfl⟩ := List.mem_map.1 hq
    exact h y (by simp [hy])
theorem row_raw (t : ByteArray) (h : ∀ b ∈ rowB t, mayB b = true) : rowTxt (rowB t) = t := by
  unfold rowTxt rowB
  rw [List.map_map, map_id_of (btxt ∘ rawB) _ fun x hx => btxt_raw x (h _ (List.mem_map.2 ⟨x, hx, rfl⟩))]
  exact pieces_join 44 t
theorem print_parse (s : ByteArray) (hm : mayR (rowsB s) = true) : prS (rowsB s) = s ∧ prE (rowsB s) = 0 := by
  have hma := may_all _ hm
  have h0 : (rowsB s).length ≠ 0 := by
    unfold rowsB
    rw [List.length_map, pieces_len]; omega
  refine ⟨?_, by unfold prE; rw [if_pos hm]⟩
  unfold prS
  rw [if_pos hm]
  unfold printB
  rw [if_neg h0]
  unfold rowsB at hma ⊢
  rw [List.map_map, map_id_of (rowTxt ∘ rowB) _ fun t ht => row_raw t (hma _ (List.mem_map.2 ⟨t, ht, rfl⟩))]
  exact pieces_join 124 s
theorem may_len (row : List Bd) (r : List (List Bd)) (hm : mayR r = true) (h : row ∈ r) : 1 ≤ row.length ∧ row.length ≤ 16 := by
  unfold mayR at hm
  simp only [Bool.and_eq_true, decide_eq_true_eq] at hm
  have := List.all_eq_true.1 hm.2 row h
  unfold mayRow at this
  simp only [Bool.and_eq_true, decide_eq_true_eq] at this
  exact this.1
theorem mayB_not (b : Bd) (h : mayB b = true) : 44 ∉ (btxt b).data.toList ∧ 124 ∉ (btxt b).data.toList := by
  rw [btxt_list]; exact Rng.prtB_not _ h
theorem raw_row (row : List Bd) (h0 : row ≠ []) (h : ∀ b ∈ row, mayB b = true) : rowB (rowTxt row) = row := by
  unfold rowB rowTxt
  rw [join_pieces 44 _ (by simpa using h0) (fun x hx => by
    obtain ⟨b, hb, rfl⟩ := List.mem_map.1 hx
    exact (mayB_not b (h b hb)).1), List.map_map]
  exact map_id_of _ _ fun b hb => raw_btxt b (h b hb)
theorem parse_print (r : List (List Bd)) (hm : mayR r = true) (h0 : r.length ≠ 0) : rowsB (printB r) = r := by
  have hma := may_all _ hm
  unfold printB
  rw [if_neg h0]
  unfold rowsB
  rw [join_pieces 124 _ (fun e => h0 (by have := congrArg List.length e; simpa using this)) (fun x hx => by
    obtain ⟨row, hr, rfl⟩ := List.mem_map.1 hx
    unfold rowTxt
    rw [jnB_list]
    unfold jl
    refine Ver.inter_notin 124 44 (by decide) _ fun q hq => ?_
    obtain ⟨y, hy, rfl⟩ := List.mem_map.1 hq
    obtain ⟨b, hb, rfl⟩ := List.mem_map.1 hy
    exact (mayB_not b (hma row hr b hb)).2), List.map_map]
  refine map_id_of _ _ fun row hr => raw_row row (fun e => ?_) (hma row hr)
  have := may_len row r hm hr
  rw [e] at this; simp at this
theorem star_rows : rowsB ⟨#[42]⟩ = [[(0, ⟨#[]⟩)]] := by decide +kernel
theorem back_allow (r : List (List Bd)) (v : ByteArray) (hm : mayR r = true) : mayR (rowsB (prS r)) = true ∧ allowR (rowsB (prS r)) v = allowR r v := by
  unfold prS
  rw [if_pos hm]
  by_cases h0 : r.length = 0
  · obtain rfl := List.eq_nil_of_length_eq_zero h0
    have e : printB [] = ⟨#[42]⟩ := rfl
    rw [e, star_rows]
    refine ⟨by decide +kernel, ?_⟩
    unfold allowR allowsB rowAll bars
    have h1 : mayR [[(0, ⟨#[]⟩)]] = true := by decide +kernel
    rw [h1, hm]
    simp [opV]
  · rw [parse_print r hm h0]
    exact ⟨hm, rfl⟩
theorem print_size (r : List (List Bd)) (hs : SmallR r) : (prS r).size ≤ 1000000 := by
  unfold prS
  by_cases hm : mayR r = true
  · rw [if_pos hm]
    unfold printB
    split
    · decide
    · have hr16 : r.length ≤ 16 := by
        unfold mayR at hm
        simp only [Bool.and_eq_true, decide_eq_true_eq] at hm
        exact hm.1
      have h1 := jn_le 124 16048 (r.map rowTxt) fun x hx => by
        obtain ⟨row, hr, rfl⟩ := List.mem_map.1 hx
        have h2 := jn_le 44 1002 (row.map btxt) fun x hx => by
          obtain ⟨b, hb, rfl⟩ := List.mem_map.1 hx
          unfold btxt
          rw [app_size]
          have := sgnB_le b.1
          have := (hs.2 row hr).2 b hb
          omega
        rw [List.length_map] at h2
        have h3 : row.length * (1002 + 1) ≤ 16 * (1002 + 1) := Nat.mul_le_mul_right _ (may_len row r hm hr).2
        unfold rowTxt
        omega
      rw [List.length_map] at h1
      have h3 : r.length * (16048 + 1) ≤ 16 * (16048 + 1) := Nat.mul_le_mul_right _ hr16
      omega
  · rw [if_neg hm]; decide
theorem prE_is (r : List (List Bd)) (b : Bool) (h : mayR r = b) : prE r = if b = true then 0 else 2 := by unfold prE; rw [h]
end Go.Proofs.YtjckcdemkpmheaaDoor
