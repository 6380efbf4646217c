/- cnf's reference: Norm. -/
import Derived.Test.YtapaoccpbcjgeaaCnmM
import Derived.Test.YtapaoccpbcjgeaaBasB
namespace Go.Proofs.Ytapaoccpbcjgeaa
open Go.RowKit Go.BigFrame
open Cnf (litB countN absI cmpN bothB nextB IsNorm Norml)

/-- A literal put into a row at a place. -/
def insK (l : List Int) (x : Int) (k : Nat) : List Int := l.take k ++ x :: l.drop k
theorem ins_len (l : List Int) (x : Int) (k : Nat) (h : k ≤ l.length) : (insK l x k).length = l.length + 1 := by
  simp [insK]; omega
theorem ins_mem (l : List Int) (x : Int) (k : Nat) (y : Int) : y ∈ insK l x k ↔ y ∈ l ∨ y = x := by
  unfold insK
  rw [List.mem_append, List.mem_cons]
  constructor
  · rintro (h | h | h)
    · exact .inl (List.mem_of_mem_take h)
    · exact .inr h
    · exact .inl (List.mem_of_mem_drop h)
  · rintro (h | h)
    · rw [← List.take_append_drop k l, List.mem_append] at h
      rcases h with h | h
      · exact .inl h
      · exact .inr (.inr h)
    · exact .inr (.inl h)
theorem ins_end (l : List Int) (x : Int) : insK l x l.length = l ++ [x] := by simp [insK]
theorem ins_here (l : List Int) (x : Int) (k : Nat) (h : k ≤ l.length) : (insK l x k)[k]? = some x := by
  unfold insK
  rw [List.getElem?_append_right (by simp; omega)]
  simp [show k - min k l.length = 0 by omega]
theorem ins_low (l : List Int) (x : Int) (k j : Nat) (h : j < k) (hk : k ≤ l.length) : (insK l x k)[j]? = some (l.getD j 0) := by
  unfold insK
  rw [List.getElem?_append_left (by simp; omega), List.getElem?_take, if_pos h, List.getElem?_eq_getElem (show j < l.length by omega)]
  simp [List.getD, show j < l.length by omega]
theorem ins_high (l : List Int) (x : Int) (k j : Nat) (h : k < j) (hk : j ≤ l.length) : (insK l x k)[j]? = some (l.getD (j - 1) 0) := by
  unfold insK
  rw [List.getElem?_append_right (by simp; omega), List.length_take, show j - min k l.length = (j - 1 - k) + 1 by omega, List.getElem?_cons_succ, List.getElem?_drop, show k + (j - 1 - k) = j - 1 by omega, List.getElem?_eq_getElem (show j - 1 < l.length by omega)]
  simp [List.getD, show j - 1 < l.length by omega]
theorem ins_step (l : List Int) (x : Int) (k : Nat) (h : k < l.length) : ((insK l x (k + 1)).set (k + 1) (l.getD k 0)).set k x = insK l x k := by
  apply List.ext_getElem?
  intro j
  have hl : (insK l x (k + 1)).length = l.length + 1 := ins_len l x (k + 1) (by omega)
  have hl2 := ins_len l x k (by omega)
  rw [List.getElem?_set, List.getElem?_set]
  by_cases h1 : k = j
  · subst h1
    rw [if_pos rfl, if_pos (by rw [List.length_set]; omega), ins_here l x k (by omega)]
  · rw [if_neg h1]
    by_cases h2 : k + 1 = j
    · subst h2
      rw [if_pos rfl, if_pos (by omega), ins_high l x k (k + 1) (by omega) (by omega)]
      simp
    · rw [if_neg h2]
      by_cases h3 : j < k
      · rw [ins_low l x (k + 1) j (by omega) (by omega), ins_low l x k j h3 (by omega)]
      · by_cases h4 : j ≤ l.length
        · rw [ins_high l x (k + 1) j (by omega) h4, ins_high l x k j (by omega) h4]
        · rw [List.getElem?_eq_none (by omega), List.getElem?_eq_none (by omega)]
theorem ins_norm {l : List Int} {x : Int} {k : Nat} (hl : Norml l) (_hk : k ≤ l.length) (h1 : ∀ y ∈ l.drop k, cmpN x y < 0) (h2 : ∀ y ∈ l.take k, cmpN y x < 0) : Norml (insK l x k) := by
  unfold Norml at *
  unfold insK
  rw [← List.take_append_drop k l, List.pairwise_append] at hl
  rw [List.pairwise_append, List.pairwise_cons]
  refine ⟨hl.1, ⟨h1, hl.2.1⟩, fun a ha b hb => ?_⟩
  rcases List.mem_cons.1 hb with rfl | hb
  · exact h2 a ha
  · exact hl.2.2 a ha b hb
/-- All that stands ahead is ahead, if the last one is. -/
theorem norm_ahead {l : List Int} {x : Int} {k : Nat} (hl : Norml l) (hk : k ≤ l.length) (h : k = 0 ∨ cmpN (l.getD (k - 1) 0) x < 0) : ∀ y ∈ l.take k, cmpN y x < 0 := by
  intro y hy
  rcases h with rfl | h
  · simp at hy
  · obtain ⟨j, hj, rfl⟩ := List.mem_iff_getElem.1 hy
    rw [List.length_take] at hj
    rw [List.getElem_take]
    by_cases e : j = k - 1
    · subst e
      simpa [List.getD, show k - 1 < l.length by omega] using h
    · refine Cnf.cmpN_trans _ (l.getD (k - 1) 0) _ ?_ h
      have := List.pairwise_iff_getElem.1 hl j (k - 1) (by omega) (by omega) (by omega)
      simpa [List.getD, show k - 1 < l.length by omega] using this
theorem norm_bad {c : List Int} {w w' : World} (hb : Below w.heap.size w w') (h : normOk c = false) : NormPost c w (.returned (.tuple #[.slice none 0 0, .bool false])) w' := ⟨hb, .inl ⟨h, rfl⟩⟩
theorem norm_both {c : List Int} {w w' : World} (hb : Below w.heap.size w w') (h : normOk c = true) (h2 : bothB c = true) : NormPost c w (.returned (.tuple #[.slice none 0 0, .bool true])) w' := ⟨hb, .inr (.inl ⟨h, h2, rfl⟩)⟩
theorem norm_good {c l : List Int} {w w' : World} {u : Value} (hb : Below w.heap.size w w') (h : normOk c = true) (h2 : bothB c = false) (hl : IsNorm c l) (ho : w'.ownsRow w.heap.size 3 1 u l.length (ints l)) : NormPost c w (.returned (.tuple #[u, .bool false])) w' := ⟨hb, .inr (.inr ⟨h, h2, u, l, hl, rfl, ho⟩)⟩
theorem ok_true {c : List Int} (h : ∀ j, j < c.length → litB 100000 (c.getD j 0) = true) : normOk c = true := by
  unfold normOk
  rw [List.all_eq_true]
  intro x hx
  obtain ⟨j, hj, rfl⟩ := List.mem_iff_getElem.1 hx
  have := h j hj
  rwa [show c.getD j 0 = c[j] by simp [List.getD, hj]] at this
theorem ok_false {c : List Int} {x : Int} (hx : x ∈ c) (h : litB 100000 x = false) : normOk c = false := by
  rw [← Bool.not_eq_true]
  unfold normOk
  intro h2
  rw [List.all_eq_true.1 h2 x hx] at h; cases h
theorem both_false {c : List Int} (h : ∀ j, j < c.length → c.contains (-(c.getD j 0)) = false) : bothB c = false := by
  rw [← Bool.not_eq_true, Cnf.bothB_iff]
  rintro ⟨x, hx, hy⟩
  obtain ⟨j, hj, rfl⟩ := List.mem_iff_getElem.1 hx
  have := h j hj
  rw [show c.getD j 0 = c[j] by simp [List.getD, hj]] at this
  rw [List.contains_eq_mem, decide_eq_false_iff_not] at this
  exact this hy
theorem norm_take {c l : List Int} {k : Nat} (h : IsNorm (c.take k) l) (hk : k < c.length) (hx : c.getD k 0 ∈ l) : IsNorm (c.take (k + 1)) l := by
  refine ⟨h.norml, fun x => ?_⟩
  rw [List.take_succ_eq_append_getElem hk, List.mem_append, List.mem_singleton, ← h.mem]
  rw [show c.getD k 0 = c[k] by simp [List.getD, hk]] at hx
  constructor
  · exact .inl
  · rintro (h | rfl)
    · exact h
    · exact hx
theorem norm_step {c l m : List Int} {k : Nat} (h : IsNorm (c.take k) l) (hk : k < c.length) (hm : Norml m) (hx : ∀ y, y ∈ m ↔ y ∈ l ∨ y = c.getD k 0) : IsNorm (c.take (k + 1)) m := by
  refine ⟨hm, fun x => ?_⟩
  rw [List.take_succ_eq_append_getElem hk, List.mem_append, List.mem_singleton, ← h.mem, hx]
  rw [show c.getD k 0 = c[k] by simp [List.getD, hk]]
theorem norm_len {c l : List Int} (h : IsNorm c l) : l.length ≤ c.length := by
  have hn : l.Nodup := by
    have := h.norml
    unfold Norml at this
    refine this.imp fun {a b} hab e => ?_
    subst e
    have := (Cnf.cmpN_zero a a).2 rfl
    omega
  exact hn.length_le_of_subset fun x hx => (h.mem x).1 hx
end Go.Proofs.Ytapaoccpbcjgeaa

/- cnf's reference: Norm: its contract. -/
namespace Go.Proofs.Ytapaoccpbcjgeaa
open Go.RowKit Go.BigFrame
open Cnf (litB countN absI cmpN bothB nextB IsNorm Norml)

set_option maxRecDepth 100000 in
set_option maxHeartbeats 4000000 in
theorem refNorm_any (a : Value) (c : List Int) (w : World) (ha : IRow w AllB a c) (hn : c.length ≤ 4000000) : Calls Try.prog 18 #[a] w (NormPost c w) := by
  obtain ⟨i0, hi, hz0, hz1, hz2⟩ := info_parts infoInt
  obtain ⟨A, ca, rfl, hla, hma⟩ := RdS.form ha
  unfold maxLen at hma
  have HR := Lib.hid ha
  have HP := Lib.hid (fun (w' : World) (hb : Below w.heap.size w w') (h : normOk c = false) => norm_bad hb h)
  have HQ := Lib.hid (fun (w' : World) (hb : Below w.heap.size w w') (h : normOk c = true) (h2 : bothB c = true) => norm_both hb h h2)
  have HG := Lib.hid (fun (l : List Int) (w' : World) (u : Value) (hb : Below w.heap.size w w') (h : normOk c = true) (h2 : bothB c = false) (hl : IsNorm c l) (ho : w'.ownsRow w.heap.size 3 1 u l.length (ints l)) => norm_good hb h h2 hl ho)
  generalize NormPost c w = post at *
  clear ha
  go_enter Try.func18, Try.ntmps18
  go_wp2
  go_loopw [4] (fun i wr => ∃ k : Nat, k ≤ c.length ∧ i = .int .i64 k ∧ Hid (wr = w) ∧ Hid (∀ j, j < k → litB 100000 (c.getD j 0) = true)) (fun i _ => c.length - (intOf i).toNat)
  case atStart => exact ⟨0, by omega, rfl, Lib.hid rfl, Lib.hid fun j h => absurd h (Nat.not_lt_zero j)⟩
  case round =>
    obtain ⟨k, hk, rfl, HW, HS⟩ := hrel
    obtain rfl := HW.out.symm
    by_cases hlt : k < c.length
    · obtain ⟨ad, rfl, hcx⟩ := IRow.get HR.out k hlt
      have HMEM := Lib.hid (show c.getD k 0 ∈ c by simp [List.getD, hlt])
      have HJ := Lib.hid (show ∀ j, j < k + 1 → j = k ∨ j < k by omega)
      obtain ⟨x, hxx⟩ : ∃ x, x = c.getD k 0 := ⟨_, rfl⟩
      have HXX := Lib.hid hxx
      rw [← hxx] at hcx HMEM
      clear hxx
      have hk0 : (0 : Int) ≤ (k : Int) := by omega
      have hk1 : (k : Int) < (c.length : Int) := by omega
      have HLIT := Lib.hid (refLit_any x 100000 w (by omega) (by omega))
      cases hlx : litB 100000 x
      · rw [hlx] at HLIT
        have HN := Lib.hid (ok_false HMEM.out hlx)
        clear hlx
        go_wp2_with fail
        refine HLIT.out.mono ?_
        rintro e w' ⟨rfl, hw⟩
        obtain rfl := hw.symm
        go_wp2
        exact HP.out _ (Below.refl _ _) HN.out
      · rw [hlx] at HLIT
        have HS' : Hid (∀ j, j < k + 1 → litB 100000 (c.getD j 0) = true) := Lib.hid fun j hj => by
          rcases HJ.out j hj with rfl | h
          · rw [← HXX.out]; exact hlx
          · exact HS.out j h
        clear hlx
        go_wp2_with fail
        refine HLIT.out.mono ?_
        rintro e w' ⟨rfl, hw⟩
        obtain rfl := hw.symm
        go_wp2
        go_roundw
        case rel => exact ⟨k + 1, by omega, by go_num, Lib.hid (by trivial), HS'⟩
        case measure => simp [intOf]; omega
    · have HOK := Lib.hid (ok_true (c := c) fun j hj => HS.out j (by omega))
      have HSM := Lib.hid (fun x (hx : x ∈ c) => lit_small (v := 100000) (by omega) (List.all_eq_true.1 (show c.all (litB 100000) = true from HOK.out) x hx))
      clear HS HW
      go_wp2
      go_loopw [5, 6, 7, 8] (fun u i _ _ wq => ∃ (k : Nat) (l : List Int), k ≤ c.length ∧ i = .int .i64 k ∧ wq.ownsRow w.heap.size 3 1 u l.length (ints l) ∧ Hid (Below w.heap.size w wq) ∧ Hid (IsNorm (c.take k) l) ∧ Hid (∀ j, j < k → c.contains (-(c.getD j 0)) = false)) (fun _ i _ _ _ => c.length - (intOf i).toNat)
      case atStart => exact ⟨0, [], by omega, rfl, World.ownsRow_nil _ _ _ _, Lib.hid (Below.refl _ _), Lib.hid ⟨List.Pairwise.nil, fun x => by simp⟩, Lib.hid fun j h => absurd h (Nat.not_lt_zero j)⟩
      case round =>
        obtain ⟨k, l, hk, rfl, hown, HB, HIN, HS⟩ := hrel
        have hll := norm_len HIN.out
        rw [List.length_take] at hll
        have hsz := HB.out.size
        have HR1 := Lib.hid (RdS.below HR.out HB.out)
        by_cases hlt : k < c.length
        · obtain ⟨ad, rfl, hcx⟩ := IRow.get HR1.out k hlt
          have HMEM := Lib.hid (show c.getD k 0 ∈ c by simp [List.getD, hlt])
          have HJ := Lib.hid (show ∀ j, j < k + 1 → j = k ∨ j < k by omega)
          obtain ⟨x, hxx⟩ : ∃ x, x = c.getD k 0 := ⟨_, rfl⟩
          have HXX := Lib.hid hxx
          rw [← hxx] at hcx HMEM
          clear hxx
          have hk0 : (0 : Int) ≤ (k : Int) := by omega
          have hk1 : (k : Int) < (c.length : Int) := by omega
          have hxs := HSM.out x HMEM.out
          have hwx : IntKind.i64.wrap (-x) = -x := IntWalk.i64_in _ (by omega)
          have HH := Lib.hid (has_any _ c (-x) _ wr (by exact HR1.out))
          cases h3 : c.contains (-x)
          · rw [h3] at HH
            have HS' : Hid (∀ j, j < k + 1 → c.contains (-(c.getD j 0)) = false) := Lib.hid fun j hj => by
              rcases HJ.out j hj with rfl | h
              · rw [← HXX.out]; exact h3
              · exact HS.out j h
            clear h3
            go_wp2_with fail
            refine HH.out.mono ?_
            rintro e w' ⟨rfl, hw⟩
            obtain rfl := hw.symm
            have HH2 := Lib.hid (has_any _ l x _ wr (by unfold IRow; exact RdS.own hown))
            clear HH
            cases h4 : l.contains x
            · rw [h4] at HH2
              have HNX := Lib.hid (show ¬ x ∈ l by simpa using h4)
              clear h4
              go_wp2_with fail
              refine HH2.out.mono ?_
              rintro e w' ⟨rfl, hw⟩
              obtain rfl := hw.symm
              clear HH2
              go_wp2_with (at_builtin; refine wpList_append_own _ rfl _ _ 35 rfl w.heap.size 3 i0 (.int .i64 0) 1 8 Try.underlying35 hi hz0 hz1 hz2 rfl (by decide) _ _ _ rfl (hown.alloc _) ⟨wr.heap.size, 0, none⟩ 1 1 [.int .i64 x] rfl rfl ?c1 ?c2 ?c3 ?c4 ?c5 ?_)
              case c1 => exact cell_one_at _ _ _ _ (by first | rfl | simp)
              case c2 => intro u hu; simp at hu; subst hu; rfl
              case c3 => unfold maxLen; omega
              case c4 => omega
              case c5 => simp; omega
              intro v' w1 hown1 hgrow1 _
              have HB1 := Lib.hid ((HB.out.alloc hsz (.cells #[.int .i64 x] 3)).grown hgrow1 (by simp; omega) (fun g e => (hown.lt g e).1))
              have hown2 : w1.ownsRow w.heap.size 3 1 v' (l.length + 1) (ints (insK l x l.length)) := by
                rw [ins_end, ints_snoc]; exact hown1
              obtain ⟨g, cap, rfl, hg, hgl, hnc, hcm⟩ := own_at hown2 (by omega)
              clear hown hgrow1 hown1 hcx
              have hw1 : IntKind.i64.wrap (((l.length + 1 : Nat) : Int) - 1) = (l.length : Int) := by rw [show (((l.length + 1 : Nat) : Int) - 1) = (l.length : Int) by omega]; exact IntWalk.i64_in _ (by omega)
              go_wp2
              go_loopw [7, 8] (fun j _ wq => ∃ m : Nat, m ≤ l.length ∧ j = .int .i64 m ∧ wq.ownsRow w.heap.size 3 1 (.slice (some ⟨g, 0, none⟩) (l.length + 1) cap) (l.length + 1) (ints (insK l x m)) ∧ Hid (Below w.heap.size w wq) ∧ Hid (∀ y ∈ l.drop m, cmpN x y < 0)) (fun j _ _ => (intOf j).toNat)
              case atStart => exact ⟨l.length, by omega, by go_num, hown2, HB1, Lib.hid fun y hy => by simp at hy⟩
              case round =>
                obtain ⟨m, hm, rfl, hown3, HB3, HD⟩ := hrel
                have hsz3 := HB3.out.size
                have HLN := Lib.hid (ins_len l x m hm)
                have HFIN := Lib.hid (fun (h : m = 0 ∨ cmpN (l.getD (m - 1) 0) x < 0) => norm_step HIN.out hlt (ins_norm HIN.out.norml hm HD.out (norm_ahead HIN.out.norml hm h)) (fun y => by rw [ins_mem, HXX.out]))
                clear hown2 HB1 HB
                by_cases hm0 : 0 < m
                · obtain ⟨p, rfl⟩ : ∃ p, m = p + 1 := ⟨m - 1, by omega⟩
                  have hgx : wr.cell? ⟨g, p + 1, none⟩ = some (.int .i64 x) := by
                    rw [World.ownsRow.cellAt hown3 (p + 1) (by omega)]
                    unfold ints
                    rw [List.getElem?_map, ins_here l x (p + 1) (by omega)]; rfl
                  have hgy : wr.cell? ⟨g, p, none⟩ = some (.int .i64 (l.getD p 0)) := by
                    rw [World.ownsRow.cellAt hown3 p (by omega)]
                    unfold ints
                    rw [List.getElem?_map, ins_low l x (p + 1) p (by omega) (by omega)]; rfl
                  have hfx := World.ownsRow.frozenAt hown3 (p + 1)
                  have hfy := World.ownsRow.frozenAt hown3 p
                  have hym : l.getD p 0 ∈ c := List.mem_of_mem_take ((HIN.out.mem _).1 (show l.getD p 0 ∈ l by simp [List.getD, show p < l.length by omega]))
                  have hys := HSM.out _ hym
                  have HDY : Hid (∀ y ∈ l.drop p, y = l.getD p 0 ∨ y ∈ l.drop (p + 1)) := Lib.hid fun y hy => by
                    rw [List.drop_eq_getElem_cons (show p < l.length by omega), List.mem_cons] at hy
                    rcases hy with h | h
                    · left; rw [h]; simp [List.getD, show p < l.length by omega]
                    · exact .inr h
                  have HST := Lib.hid (ins_step l x p (by omega))
                  have HYX : Hid (cmpN x (l.getD p 0) ≠ 0) := Lib.hid fun e => by
                    rw [Cnf.cmpN_zero] at e
                    exact HNX.out (by rw [e]; simp [List.getD, show p < l.length by omega])
                  obtain ⟨y, hyy⟩ : ∃ y, y = l.getD p 0 := ⟨_, rfl⟩
                  rw [← hyy] at hgy hys HDY HST HYX
                  have HYY := Lib.hid hyy
                  clear hyy hym
                  have hp1 : IntKind.i64.wrap ((p : Int) + 1 - 1) = (p : Int) := by rw [show (p : Int) + 1 - 1 = (p : Int) by omega]; exact IntWalk.i64_in _ (by omega)
                  have hp0 : (0 : Int) < (p : Int) + 1 := by omega
                  have hp2 : (0 : Int) ≤ (p : Int) := by omega
                  have hp3 : (p : Int) + 1 < ((l.length + 1 : Nat) : Int) := by omega
                  have hp4 : (p : Int) < ((l.length + 1 : Nat) : Int) := by omega
                  rw [show ((p + 1 : Nat) : Int) = (p : Int) + 1 from rfl]
                  have HAH := Lib.hid (fun w' => ahead_any x y w' (by omega) (by omega) (by omega) (by omega))
                  cases hcmp : decide (cmpN x y < 0)
                  · rw [hcmp] at HAH
                    have hcc := of_decide_eq_false hcmp
                    have HF := Lib.hid (HFIN.out (.inr (by
                      rw [show p + 1 - 1 = p by omega, ← HYY.out, Cnf.cmpN_neg]
                      have := HYX.out; omega)))
                    clear hcmp hcc
                    go_wp2
                    go_quiet ((go_at_call 31; exact Calls.quiet_of_same (HAH.out _)))
                    go_wp2
                    go_roundw
                    case rel => exact ⟨k + 1, insK l x (p + 1), by omega, by go_num, by rw [HLN.out]; exact own_drewN hown3 _, Lib.hid (below_drewN HB3.out _), HF, HS'⟩
                    case measure => simp [intOf]; omega
                  · rw [hcmp] at HAH
                    have HD' : Hid (∀ y ∈ l.drop p, cmpN x y < 0) := Lib.hid fun z hz => by
                      rcases HDY.out z hz with rfl | h
                      · exact of_decide_eq_true hcmp
                      · exact HD.out z h
                    clear hcmp
                    go_wp2
                    go_quiet ((go_at_call 31; exact Calls.quiet_of_same (HAH.out _)))
                    go_wp2
                    go_roundw
                    case rel =>
                      refine ⟨p, by omega, rfl, ?_, Lib.hid (((below_drewN HB3.out _).setCell (by exact hg) _).setCell (by exact hg) _), HD'⟩
                      have h9 := ((World.ownsRow.stored (own_drewN hown3 nq) (p + 1) (.int .i64 y)).1.stored p (.int .i64 x)).1
                      rw [← HST.out]
                      unfold ints at h9 ⊢
                      rw [List.map_set, List.map_set]
                      exact h9
                    case measure => simp [intOf]
                · obtain rfl : m = 0 := by omega
                  have HF := Lib.hid (HFIN.out (.inl rfl))
                  go_wp2
                  go_quiet (fail)
                  go_wp2
                  go_roundw
                  case rel => exact ⟨k + 1, insK l x 0, by omega, by go_num, by rw [HLN.out]; exact own_drewN hown3 _, Lib.hid (below_drewN HB3.out _), HF, HS'⟩
                  case measure => simp [intOf]; omega
            · rw [h4] at HH2
              have HIN' := Lib.hid (norm_take HIN.out hlt (by rw [← HXX.out]; simpa using h4))
              clear h4
              go_wp2_with fail
              refine HH2.out.mono ?_
              rintro e w' ⟨rfl, hw⟩
              obtain rfl := hw.symm
              go_wp2
              go_roundw
              case rel => exact ⟨k + 1, l, by omega, by go_num, hown, HB, HIN', HS'⟩
              case measure => simp [intOf]; omega
          · rw [h3] at HH
            have HN := Lib.hid (show bothB c = true from (Cnf.bothB_iff c).2 ⟨x, HMEM.out, by simpa using h3⟩)
            clear h3
            go_wp2_with fail
            refine HH.out.mono ?_
            rintro e w' ⟨rfl, hw⟩
            obtain rfl := hw.symm
            go_wp2
            exact HQ.out _ HB.out HOK.out HN.out
        · have HF := HIN.out
          rw [List.take_of_length_le (show c.length ≤ k by omega)] at HF
          have HF' := Lib.hid HF
          have HN := Lib.hid (both_false (c := c) fun j hj => HS.out j (by omega))
          clear HF
          go_wp2
          exact HG.out l _ _ HB.out HOK.out HN.out HF'.out hown
end Go.Proofs.Ytapaoccpbcjgeaa
