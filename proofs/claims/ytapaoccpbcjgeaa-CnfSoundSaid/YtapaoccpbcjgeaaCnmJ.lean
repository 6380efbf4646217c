/- cnf's reference: left: what of a clause is not opposed. -/
import Derived.Test.YtapaoccpbcjgeaaCnmF
import Derived.Test.YtapaoccpbcjgeaaCnmP
namespace Go.Proofs.Ytapaoccpbcjgeaa
open Go.RowKit Go.BigFrame
open Cnf (litB countN absI trueB holdB leftL heldB firstsI)

theorem infoInt : (Try.prog.info? 3).map (fun i => (i.zero, i.size, i.bytes)) = some (some (.int .i64 0), 1, 8) := by kernel_rfl
theorem cell_one_at (w : World) (T : TypeId) (x : Value) (i : Nat) (h : i = w.heap.size) : ∀ j u, [x][j]? = some u → (w.alloc (.cells #[x] T)).cell? ((⟨i, 0, none⟩ : Addr).add j) = some u := by
  intro j u hj
  subst h
  match j, hj with
  | 0, hj => simp at hj; subst hj; simp [Addr.add]
theorem own_form {w : World} {base : Nat} {e : TypeId} {size : Nat} {v : Value} {n : Nat} {xs : List Value} (h : w.ownsRow base e size v n xs) : ∃ A cap, v = .slice A n cap := by
  rcases h.2 with ⟨e1, e2⟩ | ⟨g, cap, cur, e1, _⟩
  · exact ⟨none, 0, by rw [e1, e2]⟩
  · exact ⟨_, cap, e1⟩
theorem ints_snoc (l : List Int) (x : Int) : ints (l ++ [x]) = ints l ++ [.int .i64 x] := by simp [ints]
theorem left_take (c set : List Int) (k : Nat) (h : k < c.length) : leftL (c.take (k + 1)) set = if -(c.getD k 0) ∈ set then leftL (c.take k) set else if c.getD k 0 ∈ leftL (c.take k) set then leftL (c.take k) set else leftL (c.take k) set ++ [c.getD k 0] := by
  unfold leftL
  rw [List.take_succ_eq_append_getElem h, List.filter_append]
  have e : c[k] = c.getD k 0 := by simp [List.getD, h]
  rw [e]
  generalize c.getD k 0 = x
  by_cases hx : -x ∈ set
  · rw [if_pos hx, show List.filter (fun x => decide (-x ∉ set)) [x] = [] by simp [hx], List.append_nil]
  · rw [if_neg hx, show List.filter (fun x => decide (-x ∉ set)) [x] = [x] by simp [hx], Cnf.firstsI_snoc]
theorem left_len (c set : List Int) : ∀ k, k ≤ c.length → (leftL (c.take k) set).length ≤ k
  | 0, _ => by simp [leftL, firstsI]
  | k + 1, h => by
    have ih := left_len c set k (by omega)
    rw [left_take c set k (by omega)]
    split
    · omega
    · split
      · omega
      · rw [List.length_append, List.length_singleton]; omega
/-- What left answers. -/
def LeftPost (c set : List Int) (w : World) (e : Ending) (w' : World) : Prop :=
  Below w.heap.size w w' ∧ ((heldB c set = true ∧ e = .returned (.tuple #[.slice none 0 0, .bool true])) ∨ (heldB c set = false ∧ ∃ v, e = .returned (.tuple #[v, .bool false]) ∧ w'.ownsRow w.heap.size 3 1 v (leftL c set).length (ints (leftL c set))))
set_option maxRecDepth 100000 in
set_option maxHeartbeats 2000000 in
theorem refLeft_any (a sv : Value) (c set : List Int) (w : World) (ha : IRow w AllB a c) (hs : IRow w AllB sv set) (hx : ∀ x ∈ c, -9223372036854775808 < x ∧ x ≤ 9223372036854775807) (hn : c.length ≤ 4000000) :
    Calls Try.prog 38 #[a, sv] w (LeftPost c set w) := by
  obtain ⟨i0, hi, hz0, hz1, hz2⟩ := info_parts infoInt
  obtain ⟨A, ca, rfl, hla, hma⟩ := RdS.form ha
  obtain ⟨A2, cb, rfl, hlb, hmb⟩ := RdS.form hs
  have HP := Lib.hid (show LeftPost c set w = fun e w' => Below w.heap.size w w' ∧ ((heldB c set = true ∧ e = .returned (.tuple #[.slice none 0 0, .bool true])) ∨ (heldB c set = false ∧ ∃ v, e = .returned (.tuple #[v, .bool false]) ∧ w'.ownsRow w.heap.size 3 1 v (leftL c set).length (ints (leftL c set)))) from rfl)
  have HA := Lib.hid ha
  have HS := Lib.hid hs
  have HX := Lib.hid hx
  generalize LeftPost c set w = post at *
  unfold maxLen at hma hmb
  clear ha hs hx
  go_enter Try.func38, Try.ntmps38
  go_wp2
  go_loopw [6, 7] (fun v i wr => ∃ k : Nat, k ≤ c.length ∧ i = .int .i64 k ∧ wr.ownsRow w.heap.size 3 1 v (leftL (c.take k) set).length (ints (leftL (c.take k) set)) ∧ Below w.heap.size w wr ∧ Hid (∀ j, j < k → c.getD j 0 ∉ set)) (fun _ i _ => c.length - (intOf i).toNat)
  case atStart => exact ⟨0, by omega, rfl, World.ownsRow_nil _ _ _ _, Below.refl _ _, Lib.hid fun j h => absurd h (Nat.not_lt_zero j)⟩
  case round =>
    obtain ⟨k, hk, rfl, hown, hb, HK⟩ := hrel
    have hsz := hb.size
    have HA1 := Lib.hid (RdS.keep HA.out (show SameS w wr AllB from ⟨hsz, fun b h _ => hb.block b h⟩))
    have HS1 := Lib.hid (RdS.keep HS.out (show SameS w wr AllB from ⟨hsz, fun b h _ => hb.block b h⟩))
    by_cases hlt : k < c.length
    · obtain ⟨ad, rfl, hcx⟩ := IRow.get HA1.out k hlt
      have HMEM := Lib.hid (show c.getD k 0 ∈ c by simp [List.getD, hlt])
      have HG := Lib.hid (show ∀ j, j < k + 1 → j = k ∨ j < k by omega)
      have HT := Lib.hid (left_take c set k hlt)
      have hll := left_len c set k hk
      obtain ⟨hx1, hx2⟩ := HX.out _ HMEM.out
      obtain ⟨x, hxx⟩ : ∃ x, x = c.getD k 0 := ⟨_, rfl⟩
      have HXX := Lib.hid hxx
      rw [← hxx] at hcx HMEM HT hx1 hx2
      clear hxx
      obtain ⟨l, hl⟩ : ∃ l, l = leftL (c.take k) set := ⟨_, rfl⟩
      rw [← hl] at hown HT hll
      clear hl
      have HH1 := Lib.hid (has_any _ set x AllB wr HS1.out)
      have HH2 := Lib.hid (has_any _ set (-x) AllB wr HS1.out)
      have hnx : IntKind.i64.wrap (-x) = -x := IntWalk.i64_in _ (by omega)
      have HH3 := Lib.hid (has_any _ l x _ wr (by unfold IRow; exact RdS.own hown))
      obtain ⟨B, cap, rfl⟩ := own_form hown
      clear hx1 hx2
      cases h1 : set.contains x
      · rw [h1] at HH1
        have HK' : Hid (∀ j, j < k + 1 → c.getD j 0 ∉ set) := Lib.hid fun j hj => by
          rcases HG.out j hj with rfl | h
          · rw [← HXX.out]; simpa using h1
          · exact HK.out j h
        clear h1
        cases h2 : set.contains (-x)
        · rw [h2] at HH2
          have hm2 : ¬ -x ∈ set := by simpa using h2
          clear h2
          cases h3 : l.contains x
          · rw [h3] at HH3
            have hm3 : ¬ x ∈ l := by simpa using h3
            have HT' := Lib.hid (show leftL (c.take (k + 1)) set = l ++ [x] by rw [HT.out, if_neg hm2, if_neg hm3])
            clear h3 hm2 hm3
            go_wp2_with fail
            refine HH1.out.mono ?_
            rintro e w' ⟨rfl, hw⟩
            obtain rfl := hw.symm
            clear HH1
            go_wp2_with fail
            refine HH2.out.mono ?_
            rintro e w' ⟨rfl, hw⟩
            obtain rfl := hw.symm
            clear HH2
            go_wp2_with fail
            refine HH3.out.mono ?_
            rintro e w' ⟨rfl, hw⟩
            obtain rfl := hw.symm
            clear HH3
            go_wp2_with (at_builtin; refine wpList_append_own _ rfl _ _ 35 rfl w.heap.size 3 i0 (.int .i64 0) 1 8 Try.underlying35 hi hz0 hz1 hz2 rfl (by decide) _ _ _ rfl (hown.alloc _) ⟨wr.heap.size, 0, none⟩ 1 1 [.int .i64 x] rfl rfl ?c1 ?c2 ?c3 ?c4 ?c5 ?_)
            case c1 => exact cell_one_at _ _ _ _ (by first | rfl | simp)
            case c2 => intro u hu; simp at hu; subst hu; rfl
            case c3 => unfold maxLen; omega
            case c4 => omega
            case c5 => simp; omega
            intro v' w1 hown1 hgrow1 _
            have hb1 := (hb.alloc hsz (.cells #[.int .i64 x] 3)).grown hgrow1 (by simp; omega) (fun g e => (hown.lt g e).1)
            have hown2 : w1.ownsRow w.heap.size 3 1 v' (leftL (c.take (k + 1)) set).length (ints (leftL (c.take (k + 1)) set)) := by
              rw [HT'.out, ints_snoc, List.length_append]; exact hown1
            clear hown hb hgrow1 hown1 hcx
            go_wp2
            go_roundw
            case rel => exact ⟨k + 1, by omega, by go_num, hown2, hb1, HK'⟩
            case measure => simp [intOf]; omega
          · rw [h3] at HH3
            have hm3 : x ∈ l := by simpa using h3
            have HT' := Lib.hid (show leftL (c.take (k + 1)) set = l by rw [HT.out, if_neg hm2, if_pos hm3])
            clear h3 hm2 hm3
            go_wp2_with fail
            refine HH1.out.mono ?_
            rintro e w' ⟨rfl, hw⟩
            obtain rfl := hw.symm
            clear HH1
            go_wp2_with fail
            refine HH2.out.mono ?_
            rintro e w' ⟨rfl, hw⟩
            obtain rfl := hw.symm
            clear HH2
            go_wp2_with fail
            refine HH3.out.mono ?_
            rintro e w' ⟨rfl, hw⟩
            obtain rfl := hw.symm
            clear HH3
            go_wp2
            go_roundw
            case rel => exact ⟨k + 1, by omega, by go_num, by rw [HT'.out]; exact hown, hb, HK'⟩
            case measure => simp [intOf]; omega
        · rw [h2] at HH2
          have hm2 : -x ∈ set := by simpa using h2
          have HT' := Lib.hid (show leftL (c.take (k + 1)) set = l by rw [HT.out, if_pos hm2])
          clear h2 hm2
          go_wp2_with fail
          refine HH1.out.mono ?_
          rintro e w' ⟨rfl, hw⟩
          obtain rfl := hw.symm
          clear HH1
          go_wp2_with fail
          refine HH2.out.mono ?_
          rintro e w' ⟨rfl, hw⟩
          obtain rfl := hw.symm
          clear HH2
          go_wp2
          go_roundw
          case rel => exact ⟨k + 1, by omega, by go_num, by rw [HT'.out]; exact hown, hb, HK'⟩
          case measure => simp [intOf]; omega
      · rw [h1] at HH1
        have HR := Lib.hid (show heldB c set = true by rw [Cnf.heldB_iff]; exact ⟨x, HMEM.out, by simpa using h1⟩)
        clear h1 HH2 HH3 hown
        go_wp2_with (go_at_call 30; refine HH1.out.mono ?_; rintro e w' ⟨rfl, hw⟩; obtain rfl := hw.symm)
        rw [HP.out]
        exact ⟨hb, .inl ⟨HR.out, rfl⟩⟩
    · have HR := Lib.hid (show heldB c set = false by
        rw [← Bool.not_eq_true, Cnf.heldB_iff]
        rintro ⟨x, hx, hxs⟩
        obtain ⟨j, hj, rfl⟩ := List.mem_iff_getElem.1 hx
        exact HK.out j (by omega) (by rw [show c.getD j 0 = c[j] by simp [List.getD, hj]]; exact hxs))
      rw [List.take_of_length_le (show c.length ≤ k by omega)] at hown
      obtain ⟨B, cap, rfl⟩ := own_form hown
      go_wp2
      rw [HP.out]
      exact ⟨hb, .inr ⟨HR.out, _, rfl, hown⟩⟩
end Go.Proofs.Ytapaoccpbcjgeaa

/- cnf's reference: clash. -/
namespace Go.Proofs.Ytapaoccpbcjgeaa
open Go.RowKit Go.BigFrame
open Cnf (litB countN absI trueB holdB leftL heldB firstsI clashB pairB)

/-- A row whose numbers have their opposites, and that is not too long. -/
def Mid (c : List Int) : Prop := c.length ≤ 4000000 ∧ ∀ x ∈ c, -9223372036854775808 < x ∧ x ≤ 9223372036854775807
theorem left_yes (a sv : Value) (c set : List Int) (w : World) (ha : IRow w AllB a c) (hs : IRow w AllB sv set) (hx : Mid c) (hh : heldB c set = true) :
    Calls Try.prog 38 #[a, sv] w fun e w' => e = .returned (.tuple #[.slice none 0 0, .bool true]) ∧ Below w.heap.size w w' :=
  (refLeft_any a sv c set w ha hs hx.2 hx.1).mono fun e w' h => by
    rcases h.2 with ⟨_, e1⟩ | ⟨h1, _⟩
    · exact ⟨e1, h.1⟩
    · rw [hh] at h1; cases h1
theorem left_no (a sv : Value) (c set : List Int) (w : World) (ha : IRow w AllB a c) (hs : IRow w AllB sv set) (hx : Mid c) (hh : heldB c set = false) :
    Calls Try.prog 38 #[a, sv] w fun e w' => ∃ A cap, e = .returned (.tuple #[.slice A (leftL c set).length cap, .bool false]) ∧ Below w.heap.size w w' ∧ w'.ownsRow w.heap.size 3 1 (.slice A (leftL c set).length cap) (leftL c set).length (ints (leftL c set)) :=
  (refLeft_any a sv c set w ha hs hx.2 hx.1).mono fun e w' h => by
    rcases h.2 with ⟨h1, _⟩ | ⟨_, v, e1, ho⟩
    · rw [hh] at h1; cases h1
    · obtain ⟨A, cap, rfl⟩ := own_form ho
      exact ⟨A, cap, e1, h.1, ho⟩
theorem left_le (c set : List Int) : (leftL c set).length ≤ c.length := by
  have := left_len c set c.length (Nat.le_refl _)
  rwa [List.take_of_length_le (Nat.le_refl _)] at this
set_option maxRecDepth 100000 in
set_option maxHeartbeats 2000000 in
theorem refClash_any (v : Int) (a sv : Value) (cs : List (List Int)) (set : List Int) (w : World) (ha : RowsAt w a cs) (hs : IRow w AllB sv set) (hc : ∀ c ∈ cs, Mid c) (hx : Mid set) :
    Calls Try.prog 37 #[.agg #[.int .i64 v, a], sv] w fun e w' => e = .returned (.bool (clashB cs set)) ∧ Below w.heap.size w w' := by
  obtain ⟨A, ca, rfl, hla, hma⟩ := ha.form
  obtain ⟨A2, cb, rfl, hlb, hmb⟩ := RdS.form hs
  unfold maxLen at hma hmb
  have HF := Lib.hid (show clashB cs set = (pairB set || cs.any fun c => !heldB c set && decide ((leftL c set).length = 0)) from rfl)
  generalize clashB cs set = r at *
  go_enter Try.func37, Try.ntmps37
  go_upto_region 1 with (fail)
  obtain ⟨W0, hW0, hg0, hb0, hz0, hbb⟩ := row_at w w (.cells #[.int .i64 v, .slice A cs.length ca] 30) (Below.refl _ _)
  rw [← hW0]
  have HA := Lib.hid (ha.below hb0)
  have HS := Lib.hid (RdS.below hs hb0)
  have HG0 := Lib.hid hg0
  have HC := Lib.hid hc
  have HX := Lib.hid hx
  have hzz : w.heap.size < W0.heap.size := by omega
  clear hW0 ha hs hb0 hz0 hc hx hg0
  go_wp2_with fail
  go_loopw [5] (fun i wr => ∃ k : Nat, k ≤ set.length ∧ i = .int .i64 k ∧ Hid (wr = W0) ∧ Hid (∀ j, j < k → -(set.getD j 0) ∉ set)) (fun i _ => set.length - (intOf i).toNat)
  case atStart => exact ⟨0, by omega, rfl, Lib.hid rfl, Lib.hid fun j h => absurd h (Nat.not_lt_zero j)⟩
  case round =>
    obtain ⟨k, hk, rfl, HW, HK⟩ := hrel
    rw [HW.out]
    clear HW
    by_cases hlt : k < set.length
    · obtain ⟨ad, rfl, hcx⟩ := IRow.get HS.out k hlt
      have HMEM := Lib.hid (show set.getD k 0 ∈ set by simp [List.getD, hlt])
      have HG := Lib.hid (show ∀ j, j < k + 1 → j = k ∨ j < k by omega)
      obtain ⟨hx1, hx2⟩ := HX.out.2 _ HMEM.out
      obtain ⟨x, hxx⟩ : ∃ x, x = set.getD k 0 := ⟨_, rfl⟩
      have HXX := Lib.hid hxx
      rw [← hxx] at hcx HMEM hx1 hx2
      clear hxx
      have hnx : IntKind.i64.wrap (-x) = -x := IntWalk.i64_in _ (by omega)
      have HH1 := Lib.hid (has_any _ set (-x) AllB W0 HS.out)
      clear hx1 hx2
      cases h1 : set.contains (-x)
      · rw [h1] at HH1
        have HK' : Hid (∀ j, j < k + 1 → -(set.getD j 0) ∉ set) := Lib.hid fun j hj => by
          rcases HG.out j hj with rfl | h
          · rw [← HXX.out]; simpa using h1
          · exact HK.out j h
        clear h1
        go_wp2_with fail
        refine HH1.out.mono ?_
        rintro e w' ⟨rfl, hw⟩
        obtain rfl := hw.symm
        go_wp2
        go_roundw
        case rel => exact ⟨k + 1, by omega, by go_num, Lib.hid (by first | trivial | rfl), HK'⟩
        case measure => simp [intOf]; omega
      · rw [h1] at HH1
        have HR := Lib.hid (show r = true by rw [HF.out, (Cnf.pairB_iff set).2 ⟨x, HMEM.out, by simpa using h1⟩, Bool.true_or])
        clear h1
        go_wp2_with fail
        refine HH1.out.mono ?_
        rintro e w' ⟨rfl, hw⟩
        obtain rfl := hw.symm
        go_wp2
        go_ret
        exact ⟨ret_bool HR.out.symm, hbb⟩
    · have HR := Lib.hid (show r = cs.any fun c => !heldB c set && decide ((leftL c set).length = 0) by
        rw [HF.out, show pairB set = false by
          rw [← Bool.not_eq_true, Cnf.pairB_iff]
          rintro ⟨x, hx, hxs⟩
          obtain ⟨j, hj, rfl⟩ := List.mem_iff_getElem.1 hx
          exact HK.out j (by omega) (by rw [show set.getD j 0 = set[j] by simp [List.getD, hj]]; exact hxs), Bool.false_or])
      clear HF HK
      go_wp2_with fail
      go_loopw [6] (fun i wr => ∃ k : Nat, k ≤ cs.length ∧ i = .int .i64 k ∧ Hid (Below W0.heap.size W0 wr) ∧ Hid (∀ j, j < k → (!heldB (cs.getD j []) set && decide ((leftL (cs.getD j []) set).length = 0)) = false)) (fun i _ => cs.length - (intOf i).toNat)
      case atStart => exact ⟨0, by omega, rfl, Lib.hid (Below.refl _ _), Lib.hid fun j h => absurd h (Nat.not_lt_zero j)⟩
      case round =>
        obtain ⟨k, hk, rfl, HB, HK⟩ := hrel
        have HA1 := Lib.hid (HA.out.below HB.out)
        have HS1 := Lib.hid (RdS.below HS.out HB.out)
        obtain ⟨hd0, hd1, he0, he1⟩ := cell_two ((HB.out.block w.heap.size hzz).trans HG0.out)
        by_cases hlt : k < cs.length
        · obtain ⟨ad, u, rfl, hcu, hu⟩ := OutS.get HA1.out k hlt
          obtain ⟨A', ca', rfl, hl', hm'⟩ := RdS.form hu
          rw [show (cs.getD k default) = cs.getD k [] from rfl] at *
          have HMEM := Lib.hid (show cs.getD k [] ∈ cs by simp [List.getD, hlt])
          have HG := Lib.hid (show ∀ j, j < k + 1 → j = k ∨ j < k by omega)
          have HU := Lib.hid hu
          obtain ⟨c, hc⟩ : ∃ c, c = cs.getD k [] := ⟨_, rfl⟩
          have HCC := Lib.hid hc
          rw [← hc] at HU hl' HMEM hcu
          clear hu hc
          have HMID := Lib.hid (HC.out c HMEM.out)
          cases hh : heldB c set
          · have HL := Lib.hid (left_no _ _ c set wr HU.out HS1.out HMID.out hh)
            have HH := Lib.hid hh
            clear hh
            by_cases h0 : (leftL c set).length = 0
            · have HR' := Lib.hid (show r = true by
                rw [HR.out, List.any_eq_true]
                exact ⟨c, HMEM.out, by rw [HH.out, decide_eq_true h0]; rfl⟩)
              have h0' : (((leftL c set).length : Int) == 0) = true := by rw [h0]; rfl
              go_wp2_with fail
              refine HL.out.mono ?_
              rintro e w2 ⟨B, cap, rfl, hb2, hown⟩
              rw [h0]
              have hb3 := below_step hbb (below_step HB.out hb2 HB.out.size) hbb.size
              clear hown hb2 h0' h0 hd0 hd1 hcu
              go_wp2
              go_ret
              exact ⟨ret_bool HR'.out.symm, hb3⟩
            · have HK' : Hid (∀ j, j < k + 1 → (!heldB (cs.getD j []) set && decide ((leftL (cs.getD j []) set).length = 0)) = false) := Lib.hid fun j hj => by
                rcases HG.out j hj with rfl | h
                · rw [← HCC.out, decide_eq_false h0, Bool.and_false]
                · exact HK.out j h
              have h0' : ¬ ((leftL c set).length : Int) = 0 := by omega
              go_wp2_with fail
              refine HL.out.mono ?_
              rintro e w2 ⟨B, cap, rfl, hb2, hown⟩
              have HB3 := Lib.hid (below_step HB.out hb2 HB.out.size)
              clear hown hb2 hd0 hd1 hcu
              generalize (leftL c set).length = n at *
              go_wp2
              go_roundw
              case rel => exact ⟨k + 1, by omega, by go_num, HB3, HK'⟩
              case measure => simp [intOf]; omega
          · have HL := Lib.hid (left_yes _ _ c set wr HU.out HS1.out HMID.out hh)
            have HK' : Hid (∀ j, j < k + 1 → (!heldB (cs.getD j []) set && decide ((leftL (cs.getD j []) set).length = 0)) = false) := Lib.hid fun j hj => by
              rcases HG.out j hj with rfl | h
              · rw [← HCC.out, hh]; rfl
              · exact HK.out j h
            clear hh
            go_wp2_with fail
            refine HL.out.mono ?_
            rintro e w2 ⟨rfl, hb2⟩
            have HB3 := Lib.hid (below_step HB.out hb2 HB.out.size)
            clear hb2 hd0 hd1 hcu
            go_wp2
            go_roundw
            case rel => exact ⟨k + 1, by omega, by go_num, HB3, HK'⟩
            case measure => simp [intOf]; omega
        · have HR' := Lib.hid (show r = false by
            rw [HR.out, ← Bool.not_eq_true, List.any_eq_true]
            rintro ⟨x, hx, h⟩
            obtain ⟨j, hj, rfl⟩ := List.mem_iff_getElem.1 hx
            have := HK.out j (by omega)
            rw [show cs.getD j [] = cs[j] by simp [List.getD, hj], h] at this
            cases this)
          have hb3 := below_step hbb HB.out hbb.size
          go_wp2
          go_ret
          exact ⟨ret_bool HR'.out.symm, hb3⟩
end Go.Proofs.Ytapaoccpbcjgeaa

/- cnf's reference: Unit. -/
namespace Go.Proofs.Ytapaoccpbcjgeaa
open Go.RowKit Go.BigFrame
open Cnf (litB countN absI trueB holdB leftL heldB firstsI clashB pairB unitsF unitOf firstU openN)

theorem firsts_take (l : List Int) (k : Nat) (h : k < l.length) : firstsI (l.take (k + 1)) = if l.getD k 0 ∈ firstsI (l.take k) then firstsI (l.take k) else firstsI (l.take k) ++ [l.getD k 0] := by
  rw [List.take_succ_eq_append_getElem h, show l[k] = l.getD k 0 by simp [List.getD, h], Cnf.firstsI_snoc]
theorem firsts_len (l : List Int) : ∀ k, k ≤ l.length → (firstsI (l.take k)).length ≤ k
  | 0, _ => by simp [firstsI]
  | k + 1, h => by
    have ih := firsts_len l k (by omega)
    rw [firsts_take l k (by omega)]
    split
    · omega
    · rw [List.length_append, List.length_singleton]; omega
theorem len_count : ∀ (cs : List (List Int)) (c : List Int), c ∈ cs → c.length ≤ countN cs
  | [], c, h => by cases h
  | x :: cs, c, h => by
    have e : countN (x :: cs) = x.length + countN cs := by simp [countN]
    rw [e]
    rcases List.mem_cons.1 h with rfl | h
    · omega
    · have := len_count cs c h; omega
theorem lit_small {v x : Int} (hv : v ≤ 100000) (h : litB v x = true) : x ≠ 0 ∧ -100000 ≤ x ∧ x ≤ 100000 := by
  unfold litB at h
  rw [decide_eq_true_eq] at h
  omega
theorem mid_of {v : Int} {c : List Int} (hv : v ≤ 100000) (hn : c.length ≤ 4000000) (h : ∀ x ∈ c, litB v x = true) : Mid c :=
  ⟨hn, fun x hx => by have := lit_small hv (h x hx); omega⟩
def sliceLen : Value → Nat
  | .slice _ n _ => n
  | _ => 0
theorem first_none {cs : List (List Int)} {S : List Int} (h : ∀ j, j < cs.length → unitOf (cs.getD j []) S = none) : firstU cs S = none := by
  unfold firstU
  rw [List.findSome?_eq_none_iff]
  intro x hx
  obtain ⟨j, hj, rfl⟩ := List.mem_iff_getElem.1 hx
  have := h j hj
  rwa [show cs.getD j [] = cs[j] by simp [List.getD, hj]] at this
theorem first_some {cs : List (List Int)} {S : List Int} {k : Nat} {x : Int} (hk : k < cs.length) (hx : unitOf (cs.getD k []) S = some x) (h : ∀ j, j < k → unitOf (cs.getD j []) S = none) : firstU cs S = some x := by
  refine Cnf.findSome_at _ cs k (cs.getD k []) x (by simp [List.getD, hk]) hx fun j c hj hc => ?_
  have := h j hj
  rwa [show cs.getD j [] = c by simp [List.getD, hc]] at this
theorem unit_held {c S : List Int} (h : heldB c S = true) : unitOf c S = none := by unfold unitOf; rw [if_pos h]
theorem unit_many {c S : List Int} (h : (leftL c S).length ≠ 1) : unitOf c S = none := by
  cases hu : unitOf c S with
  | none => rfl
  | some x => exact absurd (by rw [((Cnf.unitOf_some c S x).1 hu).2]; rfl) h
def goodB (v : Int) (cs : List (List Int)) (lits : List Int) : Bool := decide (checkN v cs = 0) && lits.all (litB v)
def UnitPost (v : Int) (cs : List (List Int)) (lits : List Int) (w : World) (e : Ending) (w' : World) : Prop :=
  Below w.heap.size w w' ∧ ((goodB v cs lits = false ∧ e = .returned (.tuple #[.slice none 0 0, .bool true])) ∨ (goodB v cs lits = true ∧ ∃ u, e = .returned (.tuple #[u, .bool (unitsF cs (firstsI lits)).2]) ∧ w'.ownsRow w.heap.size 3 1 u (unitsF cs (firstsI lits)).1.length (ints (unitsF cs (firstsI lits)).1)))
theorem post_bad {v : Int} {cs : List (List Int)} {lits : List Int} {w w' : World} (hb : Below w.heap.size w w') (h : goodB v cs lits = false) : UnitPost v cs lits w (.returned (.tuple #[.slice none 0 0, .bool true])) w' := ⟨hb, .inl ⟨h, rfl⟩⟩
theorem post_good {v : Int} {cs : List (List Int)} {lits : List Int} {w w' : World} {u : Value} {S : List Int} {b : Bool} {base : Nat} (hb : Below w.heap.size w w') (h : goodB v cs lits = true) (hu : unitsF cs (firstsI lits) = (S, b)) (ho : w'.ownsRow base 3 1 u S.length (ints S)) (hbase : w.heap.size ≤ base) : UnitPost v cs lits w (.returned (.tuple #[u, .bool b])) w' := by
  refine ⟨hb, .inr ⟨h, u, by rw [hu], ?_⟩⟩
  rw [hu]
  obtain ⟨hl, h | ⟨g, cap, cur, e1, hg, h2⟩⟩ := ho
  · exact ⟨hl, .inl h⟩
  · exact ⟨hl, .inr ⟨g, cap, cur, e1, Nat.le_trans hbase hg, h2⟩⟩
theorem own_drewN {w : World} {base : Nat} {e : TypeId} {size : Nat} {v : Value} {n : Nat} {xs : List Value} (h : w.ownsRow base e size v n xs) (q : Nat) : (w.drewN q).ownsRow base e size v n xs := by
  induction q with
  | zero => exact h
  | succ q ih => exact ih.drew
theorem good_true {v : Int} {cs : List (List Int)} {lits : List Int} (h : checkN v cs = 0) (hl : ∀ j, j < lits.length → litB v (lits.getD j 0) = true) : goodB v cs lits = true := by
  unfold goodB
  rw [decide_eq_true h, Bool.true_and, List.all_eq_true]
  intro x hx
  obtain ⟨j, hj, rfl⟩ := List.mem_iff_getElem.1 hx
  have := hl j hj
  rwa [show lits.getD j 0 = lits[j] by simp [List.getD, hj]] at this
theorem good_false {v : Int} {cs : List (List Int)} {lits : List Int} {x : Int} (hx : x ∈ lits) (h : litB v x = false) : goodB v cs lits = false := by
  unfold goodB
  rw [← Bool.not_eq_true, Bool.and_eq_true]
  rintro ⟨_, h2⟩
  rw [List.all_eq_true.1 h2 x hx] at h; cases h
set_option maxRecDepth 100000 in
set_option maxHeartbeats 4000000 in
theorem refUnit_any (v : Int) (a lv : Value) (cs : List (List Int)) (lits : List Int) (w : World) (ha : RowsAt w a cs) (hl : IRow w AllB lv lits) (hs : countN cs ≤ 4000000) (hn : cs.length ≤ 1000000) (hln : lits.length ≤ 1000000) :
    Calls Try.prog 23 #[.agg #[.int .i64 v, a], lv] w (UnitPost v cs lits w) := by
  obtain ⟨i0, hi, hz0, hz1, hz2⟩ := info_parts infoInt
  obtain ⟨A, ca, rfl, hla, hma⟩ := ha.form
  obtain ⟨A2, cb, rfl, hlb, hmb⟩ := RdS.form hl
  unfold maxLen at hma hmb
  have HP := Lib.hid (fun (w' : World) (hb : Below w.heap.size w w') (h : goodB v cs lits = false) => post_bad hb h)
  have HQ := Lib.hid (fun (w' : World) (u : Value) (S : List Int) (b : Bool) (hb : Below w.heap.size w w') (h : goodB v cs lits = true) (hu : unitsF cs (firstsI lits) = (S, b)) (ho : w'.ownsRow (w.heap.size + 1) 3 1 u S.length (ints S)) => post_good hb h hu ho (Nat.le_succ _))
  generalize UnitPost v cs lits w = post at *
  go_enter Try.func23, Try.ntmps23
  go_upto_region 1 with (fail)
  obtain ⟨W0, hW0, hg0, hb0, hz0', hbb⟩ := row_at w w (.cells #[.int .i64 v, .slice A cs.length ca] 30) (Below.refl _ _)
  rw [← hW0]
  have HA := Lib.hid (ha.below hb0)
  have HS := Lib.hid (RdS.below hl hb0)
  have HG0 := Lib.hid hg0
  have hzz : w.heap.size < W0.heap.size := by omega
  have HZ := Lib.hid hz0'
  obtain ⟨hc0, hc1, hf0, hf1⟩ := cell_two hg0
  clear hW0 ha hl hb0 hz0' hg0
  go_wp2_with fail
  refine (refCheck_any v _ cs _ HA.out hs).mono ?_
  rintro e w1 ⟨rfl, hb1⟩
  have HB1 := Lib.hid hb1
  clear hb1 hc0 hc1 hf0 hf1
  by_cases hck : checkN v cs = 0
  · have HOK := Lib.hid (check_ok hck)
    have hv := HOK.out.2.1
    have hv0 := HOK.out.1
    rw [hck]
    have HCK := Lib.hid hck
    clear hck
    go_wp2_with fail
    go_loopw [6, 7] (fun u i wr => ∃ k : Nat, k ≤ lits.length ∧ i = .int .i64 k ∧ wr.ownsRow W0.heap.size 3 1 u (firstsI (lits.take k)).length (ints (firstsI (lits.take k))) ∧ Hid (Below W0.heap.size W0 wr) ∧ Hid (∀ j, j < k → litB v (lits.getD j 0) = true)) (fun _ i _ => lits.length - (intOf i).toNat)
    case atStart => exact ⟨0, by omega, rfl, World.ownsRow_nil _ _ _ _, Lib.hid HB1.out, Lib.hid fun j h => absurd h (Nat.not_lt_zero j)⟩
    case round =>
      obtain ⟨k, hk, rfl, hown, HB, HK⟩ := hrel
      have hsz := HB.out.size
      have HS1 := Lib.hid (RdS.below HS.out HB.out)
      obtain ⟨hd0, hd1, he0, he1⟩ := cell_two ((HB.out.block w.heap.size hzz).trans HG0.out)
      by_cases hlt : k < lits.length
      · obtain ⟨ad, rfl, hcx⟩ := IRow.get HS1.out k hlt
        have HMEM := Lib.hid (show lits.getD k 0 ∈ lits by simp [List.getD, hlt])
        have HG := Lib.hid (show ∀ j, j < k + 1 → j = k ∨ j < k by omega)
        have HT := Lib.hid (firsts_take lits k hlt)
        have hll := firsts_len lits k hk
        obtain ⟨x, hxx⟩ : ∃ x, x = lits.getD k 0 := ⟨_, rfl⟩
        have HXX := Lib.hid hxx
        rw [← hxx] at hcx HMEM HT
        clear hxx
        obtain ⟨l, hl⟩ : ∃ l, l = firstsI (lits.take k) := ⟨_, rfl⟩
        rw [← hl] at hown HT hll
        clear hl
        have hk0 : (0 : Int) ≤ (k : Int) := by omega
        have hk1 : (k : Int) < (lits.length : Int) := by omega
        have HLIT := Lib.hid (fun w' => refLit_any x v w' hv0 (by omega))
        obtain ⟨B, cap, rfl⟩ := own_form hown
        cases hlx : litB v x
        · rw [hlx] at HLIT
          have HR := Lib.hid (HP.out · · (good_false HMEM.out hlx))
          clear hlx hown
          go_wp2_with fail
          go_quiet ((go_at_call 26; exact Calls.quiet_of_same (HLIT.out _)))
          go_wp2
          exact HR.out _ (below_drewN (below_step hbb HB.out hbb.size) _)
        · rw [hlx] at HLIT
          have HK' : Hid (∀ j, j < k + 1 → litB v (lits.getD j 0) = true) := Lib.hid fun j hj => by
            rcases HG.out j hj with rfl | h
            · rw [← HXX.out]; exact hlx
            · exact HK.out j h
          clear hlx
          go_wp2_with fail
          go_quiet ((go_at_call 26; exact Calls.quiet_of_same (HLIT.out _)))
          rename_i nq
          have hown' := own_drewN hown nq
          have HB' := Lib.hid (below_drewN HB.out nq)
          have hcx' := (cell_drew (rfl : wr.drewN nq = wr.drewN nq) _).trans hcx
          have hsz' := HB'.out.size
          generalize wr.drewN nq = w2 at *
          have HH := Lib.hid (has_any _ l x _ w2 (by unfold IRow; exact RdS.own hown'))
          clear hown hcx hd0 hd1 he0 he1 HLIT
          cases h3 : l.contains x
          · rw [h3] at HH
            have hm3 : ¬ x ∈ l := by simpa using h3
            have HT' := Lib.hid (show firstsI (lits.take (k + 1)) = l ++ [x] by rw [HT.out, if_neg hm3])
            clear h3 hm3
            go_wp2_with fail
            refine HH.out.mono ?_
            rintro e w' ⟨rfl, hw⟩
            obtain rfl := hw.symm
            clear HH
            go_wp2_with (at_builtin; refine wpList_append_own _ rfl _ _ 35 rfl W0.heap.size 3 i0 (.int .i64 0) 1 8 Try.underlying35 hi hz0 hz1 hz2 rfl (by decide) _ _ _ rfl (hown'.alloc _) ⟨w2.heap.size, 0, none⟩ 1 1 [.int .i64 x] rfl rfl ?c1 ?c2 ?c3 ?c4 ?c5 ?_)
            case c1 => exact cell_one_at _ _ _ _ (by first | rfl | simp)
            case c2 => intro u hu; simp at hu; subst hu; rfl
            case c3 => unfold maxLen; omega
            case c4 => omega
            case c5 => simp; omega
            intro v' w3 hown1 hgrow1 _
            have HB3 := Lib.hid ((HB'.out.alloc hsz' (.cells #[.int .i64 x] 3)).grown hgrow1 (by simp; omega) (fun g e => (hown'.lt g e).1))
            have hown2 : w3.ownsRow W0.heap.size 3 1 v' (firstsI (lits.take (k + 1))).length (ints (firstsI (lits.take (k + 1)))) := by
              rw [HT'.out, ints_snoc, List.length_append]; exact hown1
            clear hown' hgrow1 hown1 hcx'
            go_wp2
            go_roundw
            case rel => exact ⟨k + 1, by omega, by go_num, hown2, HB3, HK'⟩
            case measure => simp [intOf]; omega
          · rw [h3] at HH
            have hm3 : x ∈ l := by simpa using h3
            have HT' := Lib.hid (show firstsI (lits.take (k + 1)) = l by rw [HT.out, if_pos hm3])
            clear h3 hm3
            go_wp2_with fail
            refine HH.out.mono ?_
            rintro e w' ⟨rfl, hw⟩
            obtain rfl := hw.symm
            go_wp2
            go_roundw
            case rel => exact ⟨k + 1, by omega, by go_num, by rw [HT'.out]; exact hown', HB', HK'⟩
            case measure => simp [intOf]; omega
      · have HGD := Lib.hid (good_true HCK.out (fun j hj => HK.out j (by omega)))
        rw [List.take_of_length_le (show lits.length ≤ k by omega)] at hown
        have hfl := firsts_len lits lits.length (Nat.le_refl _)
        rw [List.take_of_length_le (Nat.le_refl _)] at hfl
        have HLV : Hid (∀ x ∈ firstsI lits, litB v x = true) := Lib.hid fun x hx => by
          have hx2 := (Cnf.mem_firstsI lits x).1 hx
          obtain ⟨j, hj, rfl⟩ := List.mem_iff_getElem.1 hx2
          have := HK.out j (by omega)
          rwa [show lits.getD j 0 = lits[j] by simp [List.getD, hj]] at this
        have HMIDS := Lib.hid (fun c (hc : c ∈ cs) => mid_of (c := c) hv (by have := len_count cs c hc; have := HOK.out.2.2.1; omega) (fun x hx => by
          have := HOK.out.2.2.2 c hc x hx
          unfold litB
          rw [decide_eq_true_eq]
          have h2 := this.2
          unfold absI at h2
          exact ⟨this.1, by omega, by omega⟩))
        have HCL := Lib.hid (fun c (hc : c ∈ cs) (x : Int) (hx : x ∈ c) => show litB v x = true by
          have := HOK.out.2.2.2 c hc x hx
          unfold litB
          rw [decide_eq_true_eq]
          have h2 := this.2
          unfold absI at h2
          exact ⟨this.1, by omega, by omega⟩)
        have hop := Cnf.open_len cs (firstsI lits)
        generalize firstsI lits = L0 at *
        clear HS1 HOK HK
        obtain ⟨B, cap, rfl⟩ := own_form hown
        go_wp2_with fail
        go_loopw [6] (fun u wr => ∃ S : List Int, wr.ownsRow W0.heap.size 3 1 u S.length (ints S) ∧ Hid (Below W0.heap.size W0 wr) ∧ Hid (unitsF cs L0 = unitsF cs S) ∧ Hid (∀ x ∈ S, litB v x = true) ∧ Hid (S.length + openN cs S ≤ lits.length + cs.length)) (fun u _ => lits.length + cs.length - sliceLen u)
        case atStart => exact ⟨L0, hown, HB, Lib.hid rfl, HLV, Lib.hid (by omega)⟩
        case round =>
          obtain ⟨S, hown, HB, HU, HLV, HN⟩ := hrel
          obtain ⟨B, cap, rfl⟩ := own_form hown
          have hSn : S.length ≤ 2000000 := by have := HN.out; omega
          have HMS := Lib.hid (mid_of (c := S) hv (by omega) HLV.out)
          have hbS := below_step hbb HB.out hbb.size
          obtain ⟨hd0, hd1, he0, he1⟩ := cell_two ((HB.out.block w.heap.size hzz).trans HG0.out)
          have HCA := Lib.hid (refClash_any v _ _ cs S wr (HA.out.below HB.out) (by unfold IRow; exact RdS.all (RdS.own hown)) HMIDS.out HMS.out)
          cases hcl : clashB cs S
          · rw [hcl] at HCA
            have HNC := Lib.hid hcl
            clear hcl
            go_wp2_with fail
            refine HCA.out.mono ?_
            rintro e w2 ⟨rfl, hb2⟩
            have hown2 := own_below hown hb2 (Nat.le_refl _)
            have HB2 := Lib.hid (below_step HB.out hb2 HB.out.size)
            have HROW := Lib.hid (show IRow w2 AllB (.slice B S.length cap) S by unfold IRow; exact RdS.all (RdS.own hown2))
            clear hown hb2 HCA hd0 hd1 he0 he1 hbS HB
            go_wp2
            go_loopw [6, 8] (fun u i wr => ∃ k : Nat, k ≤ cs.length ∧ i = .int .i64 k ∧ u = .slice B S.length cap ∧ Hid (Below w2.heap.size w2 wr) ∧ Hid (∀ j, j < k → unitOf (cs.getD j []) S = none)) (fun _ i _ => cs.length - (intOf i).toNat)
            case atStart => exact ⟨0, by omega, rfl, rfl, Lib.hid (Below.refl _ _), Lib.hid fun j h => absurd h (Nat.not_lt_zero j)⟩
            case round =>
              obtain ⟨k, hk, rfl, rfl, HB3, HK⟩ := hrel
              have HBW := Lib.hid (below_step HB2.out HB3.out HB2.out.size)
              have hown3 := own_below hown2 HB3.out (Nat.le_refl _)
              obtain ⟨hd0, hd1, he0, he1⟩ := cell_two ((HBW.out.block w.heap.size hzz).trans HG0.out)
              by_cases hlt2 : k < cs.length
              · obtain ⟨ad, u, hcA, hcu, hu⟩ := OutS.get (HA.out.below HBW.out) k hlt2
                obtain ⟨A', ca', rfl, hl', hm'⟩ := RdS.form hu
                rw [show (cs.getD k default) = cs.getD k [] from rfl] at *
                have HMEM := Lib.hid (show cs.getD k [] ∈ cs by simp [List.getD, hlt2])
                have HG := Lib.hid (show ∀ j, j < k + 1 → j = k ∨ j < k by omega)
                have HUU := Lib.hid hu
                obtain ⟨c, hc⟩ : ∃ c, c = cs.getD k [] := ⟨_, rfl⟩
                have HCC := Lib.hid hc
                rw [← hc] at HUU hl' HMEM hcu
                clear hu hc
                subst hcA
                have HMID := Lib.hid (HMIDS.out c HMEM.out)
                have HROW3 := Lib.hid (RdS.below HROW.out HB3.out)
                have hk0 : (0 : Int) ≤ (k : Int) := by omega
                have hk1 : (k : Int) < (cs.length : Int) := by omega
                cases hh : heldB c S
                · have HL := Lib.hid (left_no _ _ c S wr HUU.out HROW3.out HMID.out hh)
                  have HH := Lib.hid hh
                  clear hh
                  by_cases h1 : (leftL c S).length = 1
                  · obtain ⟨x, hx⟩ : ∃ x, leftL c S = [x] := by
                      match hls : leftL c S, h1 with
                      | [x], _ => exact ⟨x, rfl⟩
                    have HX := Lib.hid hx
                    have HUN := Lib.hid (show firstU cs S = some x from first_some hlt2 (by rw [← HCC.out]; exact (Cnf.unitOf_some c S x).2 ⟨HH.out, hx⟩) HK.out)
                    have HXC := Lib.hid (show x ∈ c from ((Cnf.mem_left c S x).1 (by rw [hx]; simp)).1)
                    have hoN := Cnf.open_lt cs S x HUN.out
                    have HN' := Lib.hid (show (S ++ [x]).length + openN cs (S ++ [x]) ≤ lits.length + cs.length by
                      have := HN.out
                      rw [List.length_append, List.length_singleton]; omega)
                    have HM' := Lib.hid (show lits.length + cs.length - (S.length + 1) < lits.length + cs.length - S.length by
                      have := HN.out; omega)
                    have HLV' : Hid (∀ y ∈ S ++ [x], litB v y = true) := Lib.hid fun y hy => by
                      rcases List.mem_append.1 hy with h | h
                      · exact HLV.out y h
                      · rw [List.mem_singleton] at h; subst h; exact HCL.out c HMEM.out _ HXC.out
                    have HU' := Lib.hid (HU.out.trans (Cnf.units_some cs S x HNC.out HUN.out))
                    clear h1 hoN hx
                    go_wp2_with fail
                    refine HL.out.mono ?_
                    rintro e w4 ⟨B4, cap4, rfl, hb4, hown4⟩
                    rw [HX.out] at hown4
                    rw [show (leftL c S).length = 1 by rw [HX.out]; rfl]
                    have hownS := own_below hown3 hb4 (Nat.le_refl _)
                    have HB4 := Lib.hid (below_step HBW.out hb4 HBW.out.size)
                    obtain ⟨ad4, rfl, hcx⟩ := IRow.get (c := [x]) (show IRow w4 _ _ [x] by unfold IRow; exact RdS.own hown4) 0 (by simp)
                    rw [show [x].getD 0 0 = x from rfl] at hcx
                    have hcx' := hcx
                    rw [add_zero] at hcx'
                    have hsz4 := HB4.out.size
                    clear hd0 hd1 he0 he1 hcu hown3 hown4 hb4 hown2
                    go_wp2_with (at_builtin; refine wpList_append_own _ rfl _ _ 35 rfl W0.heap.size 3 i0 (.int .i64 0) 1 8 Try.underlying35 hi hz0 hz1 hz2 rfl (by decide) _ _ _ rfl (hownS.alloc _) ⟨w4.heap.size, 0, none⟩ 1 1 [.int .i64 x] rfl rfl ?d1 ?d2 ?d3 ?d4 ?d5 ?_)
                    case d1 => exact cell_one_at _ _ _ _ (by first | rfl | simp)
                    case d2 => intro u hu; simp at hu; subst hu; rfl
                    case d3 => unfold maxLen; omega
                    case d4 => omega
                    case d5 => simp; omega
                    intro v' w5 hown5 hgrow5 _
                    have HB5 := Lib.hid ((HB4.out.alloc hsz4 (.cells #[.int .i64 x] 3)).grown hgrow5 (by simp; omega) (fun g e => (hownS.lt g e).1))
                    have hown6 : w5.ownsRow W0.heap.size 3 1 v' (S ++ [x]).length (ints (S ++ [x])) := by
                      rw [ints_snoc, List.length_append]; exact hown5
                    obtain ⟨hd0, hd1, he0, he1⟩ := cell_two ((HB5.out.block w.heap.size hzz).trans HG0.out)
                    obtain ⟨B6, cap6, rfl⟩ := own_form hown6
                    have hne : ¬ (k : Int) = (cs.length : Int) := by omega
                    clear hownS hgrow5 hown5 hcx hcx'
                    go_wp2
                    go_roundw
                    case rel => exact ⟨S ++ [x], hown6, HB5, HU', HLV', HN'⟩
                    case measure => simp [sliceLen]; have := HM'.out; omega
                  · have HK' : Hid (∀ j, j < k + 1 → unitOf (cs.getD j []) S = none) := Lib.hid fun j hj => by
                      rcases HG.out j hj with rfl | h
                      · rw [← HCC.out]; exact unit_many h1
                      · exact HK.out j h
                    have h1' : ¬ ((leftL c S).length : Int) = 1 := by omega
                    go_wp2_with fail
                    refine HL.out.mono ?_
                    rintro e w4 ⟨B4, cap4, rfl, hb4, hown4⟩
                    have HB4 := Lib.hid (below_step HB3.out hb4 HB3.out.size)
                    clear hown4 hb4 hd0 hd1 he0 he1 hcu hown3 h1
                    generalize (leftL c S).length = n at *
                    go_wp2
                    go_roundw
                    case rel => exact ⟨k + 1, by omega, by go_num, rfl, HB4, HK'⟩
                    case measure => simp [intOf]; omega
                · have HL := Lib.hid (left_yes _ _ c S wr HUU.out HROW3.out HMID.out hh)
                  have HK' : Hid (∀ j, j < k + 1 → unitOf (cs.getD j []) S = none) := Lib.hid fun j hj => by
                    rcases HG.out j hj with rfl | h
                    · rw [← HCC.out]; exact unit_held hh
                    · exact HK.out j h
                  clear hh
                  go_wp2_with fail
                  refine HL.out.mono ?_
                  rintro e w4 ⟨rfl, hb4⟩
                  have HB4 := Lib.hid (below_step HB3.out hb4 HB3.out.size)
                  clear hb4 hd0 hd1 he0 he1 hcu hown3
                  go_wp2
                  go_roundw
                  case rel => exact ⟨k + 1, by omega, by go_num, rfl, HB4, HK'⟩
                  case measure => simp [intOf]; omega
              · have hke : k = cs.length := by omega
                have HF := Lib.hid (HU.out.trans (Cnf.units_none cs S HNC.out (first_none fun j hj => HK.out j (by omega))))
                have hb3 := below_step hbb HBW.out hbb.size
                rw [HZ.out] at hown3
                subst hke
                go_wp2
                exact HQ.out _ _ _ _ hb3 HGD.out HF.out hown3
          · rw [hcl] at HCA
            have HF := Lib.hid (HU.out.trans (Cnf.units_clash cs S hcl))
            clear hcl
            go_wp2_with fail
            refine HCA.out.mono ?_
            rintro e w2 ⟨rfl, hb2⟩
            have hown2 := own_below hown hb2 (Nat.le_refl _)
            rw [HZ.out] at hown2
            have hb3 := below_step hbS hb2 hbS.size
            clear hown hb2 HCA
            go_wp2
            exact HQ.out _ _ _ _ hb3 HGD.out HF.out hown2
  · have HR := Lib.hid (show goodB v cs lits = false by unfold goodB; rw [decide_eq_false hck, Bool.false_and])
    have hck' : (checkN v cs != 0) = true := by rw [bne_iff_ne]; exact hck
    have hb2 := below_step hbb HB1.out hbb.size
    generalize checkN v cs = q at *
    go_wp2_with fail
    exact HP.out _ hb2 HR.out
end Go.Proofs.Ytapaoccpbcjgeaa
