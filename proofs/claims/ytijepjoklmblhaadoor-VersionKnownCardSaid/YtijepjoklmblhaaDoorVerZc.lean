/- The walk of the law VersionSort. -/
import Derived.Test.YtijepjoklmblhaaDoorVerZb
namespace Go.Proofs.YtijepjoklmblhaaDoor
open Go.RowKit Go.BigFrame
open Ver (prs cmpV BL Srt)

theorem toI_inj (a b : List Nat) (h : toI a = toI b) : a = b := (List.map_inj_right (fun x y e => by omega)).1 h
theorem cmpS_same (s t : ByteArray) (hs : okS s = true) (ht : okS t = true) (h1 : cmpS s t ≤ 0) (h2 : cmpS t s ≤ 0) : s = t := by
  rw [ordS_cmp s t hs ht] at h1
  rw [ordS_cmp t s ht hs, ordS_anti] at h2
  have e := (Ver.cmpV_ord.zero _ _).1 (show ordS s t = 0 by omega)
  unfold okS at hs ht
  unfold verOf at e
  cases h3 : prs s.data.toList with
  | none => rw [h3] at hs; cases hs
  | some u =>
    cases h4 : prs t.data.toList with
    | none => rw [h4] at ht; cases ht
    | some v =>
      rw [h3, h4] at e
      have e1 := congrArg Prod.fst e
      have e2 := congrArg Prod.snd e
      have : u = v := Prod.ext (toI_inj _ _ e1) e2
      subst this
      exact str_ext (Ver.prs_inj _ _ u h3 h4)
theorem out_unique (ss o1 o2 : List ByteArray) (h : okAll ss = true) (h1 : o1.Perm ss) (h2 : o2.Perm ss) (s1 : Srt cmpS o1) (s2 : Srt cmpS o2) : o1 = o2 := by
  refine Ver.srt_unique cmpS o1 o2 (h1.trans h2.symm) s1 s2 fun x hx y hy h3 h4 => ?_
  have hok := List.all_eq_true.1 h
  exact cmpS_same x y (hok x (h1.mem_iff.1 hx)) (hok y (h1.mem_iff.1 hy)) h3 h4
/-- append of all that a slice reads as, to a row of the call's own. -/
theorem wpList_app_reads {P : Program} {w : World} {ops : Array Oper} {rest : List Oper} {o : Oper} {a : Act} {Q : Exit → Act → World → Prop} (hgd : o.guard = none) (s x : Operand) (t : TypeId)
    (ho : o.op = .call { callee := .builtin .append, args := #[s, x], argTypes := #[t, t] })
    (base : Nat) (e : TypeId) (i : TypeInfo) (z : Value) (bytes : Nat) (ht : P.underlying t = some (.slice e)) (hi : P.info? e = some i) (hz : i.zero = some z) (hs1 : i.size = 1) (hb1 : i.bytes = bytes) (hzs : z.cells.size = 1)
    (v : Value) (n : Nat) (xs : List Value) (hs : a.eval s = v) (hown : w.ownsRow base e 1 v n xs) (vx : Value) (news : List Value) (B : Nat) (hx : a.eval x = vx) (hr : Reads w B vx news) (h1 : ∀ u ∈ news, u.oneCell' = true)
    (h63 : n + news.length ≤ maxLen) (hbytes : (n + news.length) * bytes ≤ 140737488355328) (hbase : base ≤ w.heap.size)
    (h : ∀ v' w', w'.ownsRow base e 1 v' (n + news.length) (xs ++ news) → w.grownBy w' v.ownBlock → wpList P ops Q rest (a.put o.dst v') w') : wpList P ops Q (o :: rest) a w := by
  obtain ⟨A, cap, rfl, hc, hm, hA, h4⟩ := hr
  cases A with
  | none =>
    have hc0 := hA rfl
    subst hc0
    have hl : news.length = 0 := by omega
    have : news = [] := List.eq_nil_of_length_eq_zero hl
    subst this
    refine wpList_append_own_none hgd s x t ho base e i 1 ht hi v n xs hs hown hx ?_
    exact h v w (by simpa using hown) (World.grownBy.refl w _)
  | some ad =>
    refine wpList_append_own w hgd s x t ho base e i z 1 bytes ht hi hz hs1 hb1 hzs (by decide) v n xs hs hown ad news.length cap news hx (Nat.mul_one _).symm ?_ h1 h63 hbytes hbase fun v' w' h2 h3 _ => h v' w' h2 h3
    intro j u hu
    have hj : 0 < news.length := by have := (List.getElem?_eq_some_iff.1 hu).1; omega
    obtain ⟨ad', e', _, hcell⟩ := h4 hj
    cases e'
    exact hcell j u hu
theorem strs_one (ss : List ByteArray) : ∀ u ∈ strs ss, u.oneCell' = true := fun u hu => by
  obtain ⟨s, _, rfl⟩ := List.mem_map.1 hu; rfl
set_option maxRecDepth 100000 in
set_option maxHeartbeats 4000000 in
theorem versionSort_go (l : Value) (ss : List ByteArray) (w : World) (hl : Reads w w.heap.size l (strs ss)) :
    Calls Tryd.prog 15 #[l] w fun e w' => e = .returned (.bool true) ∧ Below w.heap.size w w' := by
  have HL := Lib.hid hl
  obtain ⟨A, ca, rfl, hla, hma, hza, hra⟩ := hl
  rw [strs_len] at *
  have HR := Lib.hid hra
  unfold maxLen at *
  clear hra
  obtain ⟨j0, hj, hz0, hz1, hz2⟩ := info_parts infoStr
  have HJ := Lib.hid hj
  have HY0 := Lib.hid hz0
  have HY1 := Lib.hid hz1
  have HY2 := Lib.hid hz2
  clear hj hz0 hz1 hz2
  by_cases h60 : 60 < ss.length
  · go_enter Tryd.func15, Tryd.ntmps15
    go_wp2_with (go_at_call 6; refine (works_any _).mono ?_; rintro e w' ⟨rfl, hb⟩)
    go_ret
    exact ⟨rfl, hb⟩
  · have h60' : ss.length ≤ 60 := by omega
    clear h60
    have HZA := Lib.hid hza
    clear hza
    go_enter Tryd.func15, Tryd.ntmps15
    go_wp2
    go_loop [3] (fun i => ∃ k : Nat, k ≤ ss.length ∧ i = .int .i64 k ∧ Hid (∀ s ∈ ss.take k, s.size ≤ 60)) (fun i => ss.length - (intOf i).toNat)
    case atStart => exact ⟨0, by omega, rfl, Lib.hid (fun _ h => by simp at h)⟩
    case round =>
      obtain ⟨k, hk, rfl, HS⟩ := hrel
      by_cases hlt : k < ss.length
      · obtain ⟨ad, rfl, hbl, hc⟩ := HR.out (by omega)
        have hcs := hc k _ (strs_get ss k hlt)
        have HTS := Lib.hid (texts_snoc ss k hlt)
        obtain ⟨s, hs⟩ : ∃ s, s = ss.getD k ⟨#[]⟩ := ⟨_, rfl⟩
        rw [← hs] at hcs HTS
        clear hc hbl hs
        by_cases hs6 : 60 < s.size
        · go_wp2_with (go_at_call 6; refine (works_any _).mono ?_; rintro e w' ⟨rfl, hb⟩)
          go_ret
          exact ⟨rfl, hb⟩
        · have HS' : Hid (∀ x ∈ ss.take (k + 1), x.size ≤ 60) := Lib.hid fun x hx => by
            rw [HTS.out] at hx
            rcases List.mem_append.1 hx with h | h
            · exact HS.out x h
            · rw [List.mem_singleton] at h; subst h; omega
          go_wp2
          go_round
          case rel => exact ⟨k + 1, by omega, by go_num, HS'⟩
          case measure => simp [intOf]; omega
      · have HSS : Hid (∀ s ∈ ss, s.size ≤ 1000000) := Lib.hid fun s hs => by
          have := HS.out s (by rw [List.take_of_length_le (by omega)]; exact hs)
          omega
        have hge : ss.length ≤ k := by omega
        clear hlt
        go_upto_region 9 with (fail)
        go_wp2_with (at_builtin; refine wpList_app_reads rfl _ _ 38 rfl w.heap.size 9 j0 (.string ⟨#[]⟩) 16 Tryd.underlying38 HJ.out HY0.out HY1.out HY2.out rfl _ 0 [] rfl (World.ownsRow_nil _ _ _ _) (.slice A ss.length ca) (strs ss) w.heap.size rfl HL.out (strs_one ss) ?c1 ?c2 ?c3 ?_)
        case c1 => rw [strs_len]; unfold maxLen; omega
        case c2 => rw [strs_len]; omega
        intro v1 w1 hown1 hgrow1
        have hb1 : Below w.heap.size w w1 := (Below.refl _ _).grown hgrow1 (Nat.le_refl _) (fun k e => by cases e)
        rw [strs_len] at hown1
        obtain ⟨A1, c1, rfl⟩ := own_form hown1
        have HL1 := Lib.hid ((HL.out.below hb1).more hb1.size)
        have HOWN1 := Lib.hid hown1
        have HO1 := Lib.hid (Reads.own hown1)
        clear hgrow1 hown1
        cases hok : okAll ss
        · have HOK := Lib.hid hok
          clear hok
          go_wp2_with fail
          refine (sort_any _ ss w1.heap.size _ HO1.out (Nat.le_refl _) (by omega) HSS.out).mono ?_
          intro e w2 hp
          unfold SortPost at hp
          rw [if_neg (by rw [HOK.out]; simp)] at hp
          obtain ⟨rfl, hb2⟩ := hp
          have hB2 := below_step hb1 hb2 hb1.size
          have HL2 := Lib.hid ((HL1.out.below hb2).more hb2.size)
          have HO2 := Lib.hid ((HO1.out.below hb2).more hb2.size)
          clear hb1 hb2
          go_wp2_with fail
          refine (refSort_any _ ss w2.heap.size _ HL2.out (Nat.le_refl _) (by omega) HSS.out).mono ?_
          intro e w3 hp
          unfold SortPost at hp
          rw [if_neg (by rw [HOK.out]; simp)] at hp
          obtain ⟨rfl, hb3⟩ := hp
          have hB3 := below_step hB2 hb3 hB2.size
          have HL3 := Lib.hid ((HL2.out.below hb3).more hb3.size)
          have HO3 := Lib.hid ((HO2.out.below hb3).more hb3.size)
          clear hB2 hb3
          go_wp2_with fail
          refine (sameTexts_any _ _ [] [] _ _ (Reads.nil _ 0) (Reads.nil _ 0)).mono ?_
          rintro e w4 ⟨rfl, nq, hw4⟩
          rw [show decide (([] : List ByteArray) = []) = true from rfl]
          have hb34 : Below w3.heap.size w3 w4 := by rw [hw4]; exact below_drewN (Below.refl _ _) nq
          have hB4 := below_step hB3 hb34 hB3.size
          have HL4 := Lib.hid ((HL3.out.below hb34).more hb34.size)
          have HO4 := Lib.hid ((HO3.out.below hb34).more hb34.size)
          clear hB3 hw4 hb34
          go_wp2
          go_loop [9] (fun i => i = .int .i64 0) (fun _ => 0)
          case atStart => rfl
          case round =>
            subst hrel
            go_wp2_with fail
            refine (sameTexts_any _ _ ss ss _ _ HO4.out HL4.out).mono ?_
            rintro e w5 ⟨rfl, nq, hw5⟩
            rw [show decide (ss = ss) = true from decide_eq_true rfl]
            have hb45 : Below w4.heap.size w4 w5 := by rw [hw5]; exact below_drewN (Below.refl _ _) nq
            have hB5 := below_step hB4 hb45 hB4.size
            clear hw5 hb45 hB4
            go_wp2_with fail
            refine (works_any _).mono ?_
            rintro e w6 ⟨rfl, hb6⟩
            go_wp2_with fail
            go_ret
            exact ⟨rfl, below_step hB5 hb6 hB5.size⟩
        · have HOK := Lib.hid hok
          clear hok
          go_wp2_with fail
          refine (sort_any _ ss w1.heap.size _ HO1.out (Nat.le_refl _) (by omega) HSS.out).mono ?_
          intro e w2 hp
          unfold SortPost at hp
          rw [if_pos HOK.out] at hp
          obtain ⟨va, o1, rfl, howna, hpm1, hst1, hb2⟩ := hp
          obtain ⟨Aa, cA, rfl⟩ := own_form howna
          have hB2 := below_step hb1 hb2 hb1.size
          have hb1s := hb1.size
          have HL2 := Lib.hid ((HL1.out.below hb2).more hb2.size)
          have HO2 := Lib.hid (HO1.out.below hb2)
          have HB12 := Lib.hid hb2
          have HOWNA := Lib.hid howna
          clear hb1 hb2 howna
          go_wp2_with fail
          refine (refSort_any _ ss w2.heap.size _ HL2.out (Nat.le_refl _) (by omega) HSS.out).mono ?_
          intro e w3 hp
          unfold SortPost at hp
          rw [if_pos HOK.out] at hp
          obtain ⟨vb, o2, rfl, hownb, hpm2, hst2, hb3⟩ := hp
          obtain rfl := out_unique ss o1 o2 HOK.out hpm1 hpm2 hst1 hst2
          have hol : o1.length = ss.length := hpm1.length_eq
          have hB3 := below_step hB2 hb3 hB2.size
          have HL3 := Lib.hid ((HL2.out.below hb3).more hb3.size)
          have HO3 := Lib.hid (HO2.out.below (hb3.mono HB12.out.size))
          have HA3 := Lib.hid (own_below HOWNA.out hb3 (Nat.le_refl _))
          have HRA3 := Lib.hid (Reads.own HA3.out)
          have HRB3 := Lib.hid (Reads.own hownb)
          have hz13 : w1.heap.size ≤ w3.heap.size := Nat.le_trans HB12.out.size hb3.size
          have HOL := Lib.hid hol
          clear hB2 hb3 hownb hpm1 hpm2 hst1 hst2 hol
          go_wp2_with fail
          refine (sameTexts_any _ _ o1 o1 _ _ HRA3.out HRB3.out).mono ?_
          rintro e w4 ⟨rfl, nq, hw4⟩
          rw [show decide (o1 = o1) = true from decide_eq_true rfl]
          have hb34 : Below w3.heap.size w3 w4 := by rw [hw4]; exact below_drewN (Below.refl _ _) nq
          have HB4 := Lib.hid (below_step hB3 hb34 hB3.size)
          have HL4 := Lib.hid ((HL3.out.below hb34))
          have HO4 := Lib.hid (HO3.out.below (hb34.mono hz13))
          have HA4 := Lib.hid (own_below HA3.out hb34 (Nat.le_refl _))
          have hz14 : w1.heap.size ≤ w4.heap.size := Nat.le_trans hz13 hb34.size
          clear hB3 hw4 hb34 HRA3 HRB3 HA3
          go_wp2
          go_loopw [9] (fun i wr => ∃ (k : Nat) (ys : List Value), k ≤ ss.length ∧ i = .int .i64 k ∧ wr.ownsRow w1.heap.size 9 1 (.slice Aa ss.length cA) ss.length ys ∧ Below w1.heap.size w4 wr) (fun i _ => ss.length - (intOf i).toNat)
          case atStart => exact ⟨0, strs o1, by omega, rfl, HA4.out, Below.refl _ _⟩
          case round =>
            obtain ⟨k, ys, hk, rfl, hown, hbr⟩ := hrel
            by_cases hlt : k < ss.length
            · rcases hown.2 with ⟨_, e⟩ | ⟨g, cap, cur, e, hg, hgg, _⟩
              · omega
              · cases e
                have hyl : ys.length = ss.length := by have := hown.1; omega
                obtain ⟨y, hy⟩ : ∃ y, ys[k]? = some y := ⟨ys[k]'(by omega), by simp [hyl, hlt]⟩
                have hcc := hown.cells (g := g) rfl k y hy
                rw [show (⟨g, 0, none⟩ : Addr).add k = ⟨g, k, none⟩ by unfold Addr.add; by_cases h : k = 0 <;> simp [h]] at hcc
                have hff : wr.frozen? ⟨g, k, none⟩ = false := World.ownsRow.frozenAt hown k
                have hown5 := own_put hown k hlt (.string ⟨#[63]⟩)
                have hbr5 := hbr.setCell (p := ⟨g, k, none⟩) hg (.string ⟨#[63]⟩)
                clear hown hbr hgg hyl hy
                go_wp2
                go_roundw
                case rel => exact ⟨k + 1, _, by omega, by go_num, hown5, hbr5⟩
                case measure => simp [intOf]; omega
            · have hB5 := HB4.out.trans (hbr.mono (show w.heap.size ≤ w1.heap.size from hb1s))
              have HLr := HL4.out
              have hzr := hbr.size
              have HRl := (HL.out.below hB5)
              have HRo := (HO4.out.below hbr)
              clear hown
              go_wp2_with fail
              refine (sameTexts_any _ _ ss ss wr.heap.size _ (HRo.more (by omega)) (HRl.more hB5.size)).mono ?_
              rintro e w5 ⟨rfl, nq2, hw5⟩
              rw [show decide (ss = ss) = true from decide_eq_true rfl]
              have hB6 : Below w.heap.size w w5 := by rw [hw5]; exact below_drewN hB5 nq2
              clear hw5
              go_wp2_with fail
              refine (works_any _).mono ?_
              rintro e w6 ⟨rfl, hb6⟩
              go_wp2_with fail
              go_ret
              exact ⟨rfl, below_step hB6 hb6 hB6.size⟩
theorem versionSort_walk (A : Option Addr) (cap : Nat) (ss : List ByteArray) (w : World) (hl : Reads w w.heap.size (.slice A ss.length cap) (strs ss)) :
    Calls Tryd.prog 15 #[.slice A ss.length cap] w fun e w' => e = .returned (.bool true) ∧ Below w.heap.size w w' := versionSort_go _ ss w hl
set_option maxRecDepth 100000 in
theorem open_strs2 {H : Type} {enc : TypeId × Value → H} {w : World} {base : Nat} {sp : Nat → Bool} {held : Bool} {r : Reach} {b0 : Nat} {v : Value} {y : DataW H} {ps : List MemPlace} (lt : ∀ x ∈ ps, x.block < w.heap.size)
    (hval : Value.okWide Tryd.prog w r b0 38 v) (hd : DataW.Trod enc Tryd.prog w base sp held 38 v y ps) :
    ∃ (A : Option Addr) (cap : Nat) (ss : List ByteArray), Reads w w.heap.size (.slice A ss.length cap) (strs ss) ∧ v = .slice A ss.length cap := by
  obtain ⟨a, ss, hR, rfl⟩ := open_strs lt hval hd
  obtain ⟨A, cap, e, h⟩ := hR
  rw [strs_len] at e
  exact ⟨A, cap, ss, ⟨A, cap, by rw [strs_len], h⟩, e⟩
end Go.Proofs.YtijepjoklmblhaaDoor
