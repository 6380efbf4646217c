/- Contracts of the reference's sign, split. -/
import Derived.Test.YtjckcdemkpmheaaDoorRngN
namespace Go.Proofs.YtjckcdemkpmheaaDoor
open Go.RowKit Go.BigFrame
open Ver (cmpV BL parts)

set_option maxRecDepth 100000 in
set_option maxHeartbeats 800000 in
theorem rsign_any (o : Nat) (h : o ≤ 7) (w : World) : Calls Tryd.prog 31 #[.int .u8 (o : Int)] w fun e w' => e = .returned (.string (sgnB o)) ∧ Below w.heap.size w w' := by
  have h0 : (0 : Int) ≤ (o : Int) := by omega
  have h8 : (o : Int) < 8 := by omega
  have HC := Lib.hid (fun (W : World) (hW : W = w.alloc (.cells #[.string ⟨#[42]⟩, .string ⟨#[61]⟩, .string ⟨#[33, 61]⟩, .string ⟨#[60]⟩, .string ⟨#[60, 61]⟩, .string ⟨#[62]⟩, .string ⟨#[62, 61]⟩, .string ⟨#[126]⟩] 9)) => (show W.cell? ⟨w.heap.size, o, none⟩ = some (.string (sgnB o)) by
    rw [hW, cell_of_row _ _ _ _ _ _ (heap_alloc_new w _)]
    rcases op_cases o h with rfl | rfl | rfl | rfl | rfl | rfl | rfl | rfl <;> rfl))
  obtain ⟨tt, htt⟩ : ∃ tt, tt = sgnB o := ⟨_, rfl⟩
  rw [← htt] at HC ⊢
  clear htt
  have hc := HC.out _ rfl
  go_enter Tryd.func31, Tryd.ntmps31
  go_wp2
  go_ret
  exact ⟨rfl, (Below.refl _ _).alloc (Nat.le_refl _) _⟩
/-- No c between from and i, and what is left. -/
theorem split_skip (c : UInt8) (l : BL) (f i : Nat) (hf : f ≤ i) (h : c ∉ (l.take i).drop f) (x : UInt8) (hx : l[i]? = some x) (hne : x ≠ c) : c ∉ (l.take (i + 1)).drop f := by
  rw [take_next l i x hx, List.drop_append_of_le_length (by have := (List.getElem?_eq_some_iff.1 hx).1; rw [List.length_take]; omega)]
  simp only [List.mem_append, List.mem_singleton, not_or]
  exact ⟨h, Ne.symm hne⟩
theorem parts_cut (c : UInt8) (a r : BL) (h : c ∉ a) : parts c (a ++ c :: r) = a :: parts c r := by
  have hb := Ver.brk_app c a r h
  rw [Ver.parts_brk_yes c _ (by rw [hb]), hb]
theorem split_hit (c : UInt8) (l : BL) (f i : Nat) (hf : f ≤ i) (h : c ∉ (l.take i).drop f) (hx : l[i]? = some c) : parts c (l.drop f) = (l.take i).drop f :: parts c (l.drop (i + 1)) := by
  obtain ⟨hl, e⟩ := List.getElem?_eq_some_iff.1 hx
  have e2 : l.drop f = (l.take i).drop f ++ c :: l.drop (i + 1) := by
    conv => lhs; rw [← List.take_append_drop i l]
    rw [List.drop_append_of_le_length (by rw [List.length_take]; omega), List.drop_eq_getElem_cons hl, e]
  rw [e2, parts_cut c _ _ h]
theorem split_end (c : UInt8) (l : BL) (f : Nat) (h : c ∉ (l.take l.length).drop f) : parts c (l.drop f) = [(l.take l.length).drop f] := by
  rw [List.take_length] at *
  exact Ver.parts_not c _ h
theorem ext_list (s : ByteArray) (a b : Nat) : (s.extract a b).data.toList = (s.data.toList.take b).drop a := by simp [List.drop_take]
theorem data_inj : ∀ (a b : List ByteArray), a.map (·.data.toList) = b.map (·.data.toList) → a = b
  | [], [], _ => rfl
  | [], _ :: _, h => by simp at h
  | _ :: _, [], h => by simp at h
  | x :: a, y :: b, h => by
    simp only [List.map_cons, List.cons.injEq] at h
    rw [str_ext h.1, data_inj a b h.2]
set_option maxRecDepth 100000 in
set_option maxHeartbeats 1000000 in
theorem rsplit_any (c : UInt8) (s : ByteArray) (w : World) (hs : s.size ≤ 1000000) :
    Calls Tryd.prog 26 #[.string s, .int .u8 (c.toNat : Int)] w fun e w' => ∃ v, e = .returned v ∧ RdS w' AllB v (piecesB c s).length (strs (piecesB c s)) ∧ Below w.heap.size w w' := by
  obtain ⟨i0, hi, hz0, hz1, hz2⟩ := info_parts infoStr
  have HI := Lib.hid hi
  have HZ0 := Lib.hid hz0
  have HZ1 := Lib.hid hz1
  have HZ2 := Lib.hid hz2
  have HP := Lib.hid (pieces_data c s)
  clear hi hz0 hz1 hz2
  go_enter Tryd.func26, Tryd.ntmps26
  go_wp2
  go_loopw [5, 6, 7] (fun lv fv iv wr => ∃ (i f : Nat) (done : List ByteArray), f ≤ i ∧ i ≤ s.size + 1 ∧ fv = .int .i64 (f : Int) ∧ iv = .int .i64 (i : Int) ∧ done.length ≤ i ∧
      Hid (i ≤ s.size → done.map (·.data.toList) ++ parts c (s.data.toList.drop f) = parts c s.data.toList ∧ c ∉ (s.data.toList.take i).drop f) ∧ Hid (s.size < i → done.map (·.data.toList) = parts c s.data.toList) ∧
      Hid (wr.ownsRow w.heap.size 9 1 lv done.length (strs done)) ∧ Hid (Below w.heap.size w wr)) (fun _ _ iv _ => s.size + 1 - (intOf iv).toNat)
  case atStart => exact ⟨0, 0, [], Nat.le_refl _, by omega, rfl, rfl, Nat.le_refl _, Lib.hid (fun _ => ⟨rfl, by simp⟩), Lib.hid (fun h => by omega), Lib.hid (World.ownsRow_nil _ _ _ _), Lib.hid (Below.refl _ _)⟩
  case round =>
    obtain ⟨i, f, done, hf, hi, rfl, rfl, hdl, HA, HE, HOWN, HB⟩ := hrel
    obtain ⟨A1, cap1, rfl⟩ := own_form HOWN.out
    have hw1 : IntKind.i64.wrap ((i : Int) + 1) = (i : Int) + 1 := IntWalk.i64_in _ (by omega)
    have hf0 : (0 : Int) ≤ (f : Int) := by omega
    have hfi : (f : Int) ≤ (i : Int) := by omega
    by_cases hle : i ≤ s.size
    · have hleI : (i : Int) ≤ (s.size : Int) := by omega
      obtain ⟨HA1, HA2⟩ := HA.out hle
      by_cases hend : i = s.size
      · subst hend
        have HN := Lib.hid (show (done ++ [s.extract f s.size]).map (·.data.toList) = parts c s.data.toList by
          rw [← HA1, split_end c _ f (by rw [len_data]; exact HA2), List.map_append, List.map_cons, List.map_nil, ext_list, len_data])
        clear HA HA1 HA2
        go_wp2_with (at_builtin; refine wpList_app rfl _ _ 35 rfl w.heap.size 9 i0 (.string ⟨#[]⟩) 16 Tryd.underlying35 HI.out HZ0.out HZ1.out HZ2.out rfl _ done.length _ rfl (HOWN.out.alloc _) ⟨wr.heap.size, 0, none⟩ 1 1 [.string (s.extract f s.size)] rfl rfl ?c1 ?c2 ?c3 ?c4 ?c5 ?_)
        case c1 => intro j u hu; exact row_cells (heap_alloc_new _ _) j u (by simpa using hu)
        case c2 => simp [Value.oneCell']
        case c3 => unfold maxLen; omega
        case c4 => omega
        case c5 => have := HB.out.size; simp; omega
        intro v' w6 hown6 hgrow6 hmov6
        obtain ⟨A6, cap6, rfl⟩ := own_form hown6
        have HR5 := Lib.hid ((HB.out.alloc HB.out.size (.cells #[.string (s.extract f s.size)] 9)).grown hgrow6 (by have := HB.out.size; simp; omega) fun g hg => (HOWN.out.lt g hg).1)
        have HR1 := Lib.hid (show w6.ownsRow w.heap.size 9 1 (.slice A6 (done.length + 1) cap6) (done ++ [s.extract f s.size]).length (strs (done ++ [s.extract f s.size])) by rw [List.length_append, strs_snoc]; exact hown6)
        clear hown6 hgrow6 hmov6
        go_wp2
        go_roundw
        case rel => exact ⟨s.size + 1, s.size + 1, done ++ [s.extract f s.size], Nat.le_refl _, by omega, by go_num, by go_num, by simp; omega, Lib.hid (fun h => by omega), Lib.hid (fun _ => HN.out), HR1, HR5⟩
        case measure => first | (simp [intOf]; done) | (simp [intOf]; omega)
      · have hlt : i < s.size := by omega
        have hltI : (i : Int) < (s.size : Int) := by omega
        have hneI : ((i : Int) == (s.size : Int)) = false := by rw [beq_eq_false_iff_ne]; omega
        have hget : s.data.toList[i]? = some s[i] := by
          rw [List.getElem?_eq_getElem (by rw [len_data]; exact hlt)]; rfl
        by_cases hc : (s[i].toNat : Int) = (c.toNat : Int)
        · have hcb : ((s[i].toNat : Int) == (c.toNat : Int)) = true := by rw [hc]; simp
          have hce : s[i] = c := UInt8.toNat_inj.1 (by omega)
          rw [hce] at hget
          have HN := Lib.hid (show (done ++ [s.extract f i]).map (·.data.toList) ++ parts c (s.data.toList.drop (i + 1)) = parts c s.data.toList by
            rw [← HA1, split_hit c _ f i hf HA2 hget, List.map_append, List.map_cons, List.map_nil, ext_list, List.append_assoc]; rfl)
          have HNN := Lib.hid (show c ∉ (s.data.toList.take (i + 1)).drop (i + 1) by rw [List.drop_take_self]; simp)
          clear HA HA1 HA2 hget hce
          go_wp2_with (at_builtin; refine wpList_app rfl _ _ 35 rfl w.heap.size 9 i0 (.string ⟨#[]⟩) 16 Tryd.underlying35 HI.out HZ0.out HZ1.out HZ2.out rfl _ done.length _ rfl (HOWN.out.alloc _) ⟨wr.heap.size, 0, none⟩ 1 1 [.string (s.extract f i)] rfl rfl ?c1 ?c2 ?c3 ?c4 ?c5 ?_)
          case c1 => intro j u hu; exact row_cells (heap_alloc_new _ _) j u (by simpa using hu)
          case c2 => simp [Value.oneCell']
          case c3 => unfold maxLen; omega
          case c4 => omega
          case c5 => have := HB.out.size; simp; omega
          intro v' w6 hown6 hgrow6 hmov6
          obtain ⟨A6, cap6, rfl⟩ := own_form hown6
          have HR5 := Lib.hid ((HB.out.alloc HB.out.size (.cells #[.string (s.extract f i)] 9)).grown hgrow6 (by have := HB.out.size; simp; omega) fun g hg => (HOWN.out.lt g hg).1)
          have HR1 := Lib.hid (show w6.ownsRow w.heap.size 9 1 (.slice A6 (done.length + 1) cap6) (done ++ [s.extract f i]).length (strs (done ++ [s.extract f i])) by rw [List.length_append, strs_snoc]; exact hown6)
          clear hown6 hgrow6 hmov6
          go_wp2
          go_roundw
          case rel => exact ⟨i + 1, i + 1, done ++ [s.extract f i], Nat.le_refl _, by omega, by go_num, by go_num, by simp; omega, Lib.hid (fun _ => ⟨HN.out, HNN.out⟩), Lib.hid (fun h => by omega), HR1, HR5⟩
          case measure => simp [intOf]; omega
        · have hcb : ((s[i].toNat : Int) == (c.toNat : Int)) = false := by rw [beq_eq_false_iff_ne]; exact hc
          have hce : s[i] ≠ c := fun e => hc (by rw [e])
          have HNN := Lib.hid (split_skip c _ f i hf HA2 _ hget hce)
          have HA1' := Lib.hid HA1
          clear HA HA1 HA2 hget hce
          go_wp2
          go_roundw
          case rel => exact ⟨i + 1, f, done, by omega, by omega, rfl, by go_num, by omega, Lib.hid (fun _ => ⟨HA1'.out, HNN.out⟩), Lib.hid (fun h => by omega), HOWN, HB⟩
          case measure => simp [intOf]; omega
    · have hleI : ¬ (i : Int) ≤ (s.size : Int) := by omega
      have hde : done = piecesB c s := data_inj _ _ ((HE.out (by omega)).trans HP.out.symm)
      have HRD := Lib.hid (RdS.own HOWN.out).all
      have HDE := Lib.hid hde
      clear hde
      go_wp2
      go_ret
      exact ⟨_, rfl, by rw [← HDE.out]; exact HRD.out, HB.out⟩
end Go.Proofs.YtjckcdemkpmheaaDoor
