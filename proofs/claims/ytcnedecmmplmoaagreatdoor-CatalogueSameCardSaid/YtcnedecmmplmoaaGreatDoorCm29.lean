/- catalogue: a reader's pack. -/
import Derived.Test.YtcnedecmmplmoaaGreatDoorCm27
import Derived.Test.YtcnedecmmplmoaaGreatDoorCm28
set_option linter.unusedVariables false
set_option linter.unusedSimpArgs false
namespace Go.Proofs.YtcnedecmmplmoaaGreatDoor
open Go Go.RowKit Go.BigFrame Go.Maps
open Ver (cmpV BL parts brk)
set_option maxRecDepth 100000

theorem vparse_e (v : ByteArray) (w : World) (hv : v.size ≤ 1000000) : Calls Tryz.prog 58 #[.string v] w fun e w' => ∃ A n c t, e = .returned (.tuple #[.agg #[.slice A n c, .string t], .int .i64 (if okS v = true then 0 else 130)]) ∧ Below w.heap.size w w' := by
  cases ho : okS v
  · refine (parse_no v w hv ho).mono ?_
    rintro e w' ⟨rfl, hb⟩
    exact ⟨_, _, _, _, rfl, hb⟩
  · refine (parse_yes v w hv ho).mono ?_
    rintro e w' ⟨a, t, rfl, _, _, _, hb, ⟨A, n, cap, rfl, _⟩⟩
    exact ⟨_, _, _, _, rfl, hb⟩
theorem packE_bad {l : List Va} {s : ByteArray} (h : twoOk s = false ∨ rightB (bA 32 s) = false ∨ okS (bR 32 s) = false ∨ l.length = 2000) : packE l s = 150 := by
  unfold packE packOk
  rw [if_neg]
  rcases h with h | h | h | h <;> simp [h]
theorem packE_dup {l : List Va} {s : ByteArray} (h : twoOk s = true ∧ rightB (bA 32 s) = true ∧ okS (bR 32 s) = true ∧ l.length ≠ 2000) : packE l s = if dupV l (bA 32 s) (bR 32 s) = true then 151 else 0 := by
  unfold packE packOk
  rw [if_pos (by simp [h.1, h.2.1, h.2.2.1, h.2.2.2])]
set_option maxRecDepth 100000 in
set_option maxHeartbeats 4000000 in
theorem pack_no (w : World) (base rb mb : Nat) (ro : Nat → Nat) (vl vr : Value) (cs : List Value) (st : RSt) (h : RdAt w base rb mb ro vl vr cs st) (s : ByteArray) (hs : s.size ≤ 1000000) (hbad : twoOk s = false ∨ rightB (bA 32 s) = false ∨ okS (bR 32 s) = false ∨ st.1.length = 2000) (st' : RSt) :
    Calls Tryz.prog 71 #[.pointer (some ⟨rb, 0, none⟩), .string s] w (MPost w base rb mb ro st.1 (packE st.1 s) st') := by
  have HF := Lib.hid (fun w' (hb : Below w.heap.size w w') => MPost.bad (l := st.1) (base := base) (rb := rb) (mb := mb) (ro := ro) (st' := st') (packE_bad (l := st.1) (s := s) hbad) hb)
  have hT := two_any s w (by unfold maxLen; omega)
  unfold TwoPost at hT
  have hA : (bA 32 s).size ≤ maxLen := by have := bA_le 32 s; unfold maxLen; omega
  have hR : (bR 32 s).size ≤ 1000000 := by have := bR_le 32 s; omega
  have HRI := Lib.hid (fun w' => right_any (bA 32 s) w' hA)
  have HV := Lib.hid (fun w' => vparse_e (bR 32 s) w' hR)
  have HC := Lib.hid (fun w' (hb : Below w.heap.size w w') => (h.ch (Ch.of_below hb (fun b => ¬ b < w.heap.size) (fun k hk h2 => by omega)) (fun b hb => by
    have := h.all b
    by_cases e : ro b = 0
    · exact e
    · have := this e; omega)).cells)
  obtain ⟨A0, c0, rfl⟩ := own_form h.lst.own
  generalize MPost w base rb mb ro st.1 (packE st.1 s) st' = post at *
  generalize st.1.length = n at *
  generalize bA 32 s = a at *
  generalize bR 32 s = r at *
  generalize twoOk s = ok at *
  have HTW := Lib.hid hT
  clear h hT hA hR hs
  cases ok with
  | false =>
    clear hbad
    go_enter Tryz.func71, Tryz.ntmps71
    go_wp2_with (first
      | (go_at_call 102; refine HTW.out.mono ?_; rintro e w1 ⟨rfl, nq, rfl⟩)
      | (go_at_call 58; refine (HV.out _).mono ?_; rintro e W3 ⟨A3, n3, c3, t3, rfl, hb3⟩
         have hbn := (below_drewN (Below.refl w.heap.size w) nq).trans (hb3.mono (by rw [heap_drewN]; exact Nat.le_refl _))
         have hb5 := below_step hbn ((Below.refl W3.heap.size W3).alloc (Nat.le_refl _) (.cells #[.slice A3 n3 c3, .string t3] 101)) hbn.size))
    all_goals exact HF.out _ hb5
  | true =>
    cases hrn : rightB a with
    | false =>
      rw [hrn] at HRI
      clear hbad hrn
      go_enter Tryz.func71, Tryz.ntmps71
      go_wp2_with (first
        | (go_at_call 102; refine HTW.out.mono ?_; rintro e w1 ⟨rfl, nq, rfl⟩)
        | (go_at_call 57; refine (HRI.out _).mono ?_; rintro e W2 ⟨rfl, hw2⟩; obtain rfl := hw2)
        | (go_at_call 58; refine (HV.out _).mono ?_; rintro e W3 ⟨A3, n3, c3, t3, rfl, hb3⟩
           have hbn := (below_drewN (Below.refl w.heap.size w) nq).trans (hb3.mono (by rw [heap_drewN]; exact Nat.le_refl _))
           have hb5 := below_step hbn ((Below.refl W3.heap.size W3).alloc (Nat.le_refl _) (.cells #[.slice A3 n3 c3, .string t3] 101)) hbn.size))
      all_goals exact HF.out _ hb5
    | true =>
      rw [hrn] at HRI hbad
      cases hov : okS r with
      | false =>
        rw [hov] at HV
        simp only [if_neg (show ¬ (false = true) by decide)] at HV
        clear hbad hrn hov
        go_enter Tryz.func71, Tryz.ntmps71
        go_wp2_with (first
          | (go_at_call 102; refine HTW.out.mono ?_; rintro e w1 ⟨rfl, nq, rfl⟩)
          | (go_at_call 57; refine (HRI.out _).mono ?_; rintro e W2 ⟨rfl, hw2⟩; obtain rfl := hw2)
          | (go_at_call 58; refine (HV.out _).mono ?_; rintro e W3 ⟨A3, n3, c3, t3, rfl, hb3⟩
             have hbn := (below_drewN (Below.refl w.heap.size w) nq).trans (hb3.mono (by rw [heap_drewN]; exact Nat.le_refl _))
             have hb5 := below_step hbn ((Below.refl W3.heap.size W3).alloc (Nat.le_refl _) (.cells #[.slice A3 n3 c3, .string t3] 101)) hbn.size))
        all_goals exact HF.out _ hb5
      | true =>
        rw [hov] at HV hbad
        simp only [if_pos] at HV
        have hn : n = 2000 := by
          rcases hbad with h | h | h | h
          · cases h
          · cases h
          · cases h
          · exact h
        have hnI : ((n : Int) == 2000) = true := by rw [hn]; rfl
        clear hbad hrn hov hn
        go_enter Tryz.func71, Tryz.ntmps71
        go_wp2_with (first
          | (go_at_call 102; refine HTW.out.mono ?_; rintro e w1 ⟨rfl, nq, rfl⟩)
          | (go_at_call 57; refine (HRI.out _).mono ?_; rintro e W2 ⟨rfl, hw2⟩; obtain rfl := hw2)
          | (go_at_call 58; refine (HV.out _).mono ?_; rintro e W3 ⟨A3, n3, c3, t3, rfl, hb3⟩
             have hbn := (below_drewN (Below.refl w.heap.size w) nq).trans (hb3.mono (by rw [heap_drewN]; exact Nat.le_refl _))
             have hb5 := below_step hbn ((Below.refl W3.heap.size W3).alloc (Nat.le_refl _) (.cells #[.slice A3 n3 c3, .string t3] 101)) hbn.size
             obtain ⟨k0, _⟩ := HC.out _ hb5))
        all_goals exact HF.out _ hb5
end Go.Proofs.YtcnedecmmplmoaaGreatDoor

/- catalogue: pack: the set is asked, the set grows (its two regions). -/
namespace Go.Proofs.YtcnedecmmplmoaaGreatDoor
open Go Go.RowKit Go.BigFrame Go.Maps
open Ver (cmpV BL parts brk)
set_option maxRecDepth 100000

inductive Kp | val (v : Value) | box | non
def RP (S : Nat) : Kp → Value → World → Prop
  | .val x, v, _ => v = x
  | .box, v, w => ∃ g, v = .pointer (some ⟨g, 0, none⟩) ∧ S ≤ g ∧ w.heap[g]? = some (.cells #[] 63 (0, 0))
  | .non, _, _ => True
theorem RP.below {S : Nat} {k : Kp} {v : Value} {w w' : World} (h : RP S k v w) (hb : Below w.heap.size w w') : RP S k v w' := by
  cases k with
  | val x => exact h
  | non => trivial
  | box => obtain ⟨g, e, h0, h1⟩ := h; exact ⟨g, e, h0, (hb.block g (block_lt h1)).trans h1⟩
theorem RP.set {S : Nat} {k : Kp} {v : Value} {w : World} {g : Nat} (h : RP S k v w) (hg : w.heap[g]? = some (.cells #[] 63 (0, 0))) : RP S k v (w.setRow g #[]) := by
  cases k with
  | val x => exact h
  | non => trivial
  | box =>
    obtain ⟨g', e, h0, h1⟩ := h
    by_cases hk : g' = g
    · subst hk; exact ⟨g', e, h0, setRow_heap _ _ _ _ _ _ hg⟩
    · exact ⟨g', e, h0, (setRow_other _ _ _ _ hk).trans h1⟩
def RQ : Kp → Value → Prop
  | .val x, v => v = x
  | _, _ => True
def kinds6 (rb mb : Nat) (a r : ByteArray) (tw : Bool) : List Kp := [.val (.pointer (some ⟨rb, 0, none⟩)), .val (.pointer (some ⟨rb, 0, none⟩)), .val (.pointer (some ⟨rb, 1, none⟩)), .val (.map (some mb)), .val (.agg #[.string a, .string r]), .val (.tuple #[.agg #[], .bool tw]), .val (.tuple #[.agg #[], .bool tw]), .val (.agg #[]), .val (.bool tw), .box, .non, .val (.bool tw)]
def kinds9 (rb mb : Nat) (a r : ByteArray) : List Kp := [.val (.pointer (some ⟨rb, 0, none⟩)), .val (.pointer (some ⟨rb, 0, none⟩)), .val (.pointer (some ⟨rb, 1, none⟩)), .val (.map (some mb)), .val (.agg #[.string a, .string r]), .val (.agg #[]), .non]
theorem SeenP.look {w : World} {mb : Nat} {l : List Va} {a r : ByteArray} (h : SeenP w mb l) (ha : a.size ≤ maxLen) (hr : r.size ≤ maxLen) : (Instr.lookup 59 (.map (some mb)) (.agg #[.string a, .string r]) true).run Tryz.prog w = .ok (.tuple #[.agg #[], .bool (dupV l a r)]) w := by
  obtain ⟨D, hD, hh⟩ := h
  obtain ⟨v, ps, hrun, hv⟩ := hD.look_ok keyPair Tryz.underlying59 (zeroUnitC w) unitElem_mk (kP_key a r ha hr)
  obtain ⟨rfl, _⟩ := unitElem_inv hv
  rw [hrun, hh a r ha hr]
theorem SeenP.sas {w : World} {mb : Nat} {l m : List Va} (h : SeenP w mb l) (hl : m.length = l.length) (hd : ∀ a b, dupV m a b = dupV l a b) : SeenP w mb m := h.as hl hd
theorem load_key {w' : World} {g : Nat} {a r : ByteArray} (h : w'.heap[g]? = some (.cells #[.string a, .string r] 62 (0, 0))) : (loadVar 62 ⟨g, 0, none⟩).run Tryz.prog w' = .ok (.agg #[.string a, .string r]) w' :=
  run_loadVar_row w' g _ 62 _ (0, 0) _ h Tryz.underlying62 (by rfl) (by kernel_rfl)
/-- What stands ahead of the set's regions. -/
structure PkW (w W : World) (rb mb kb : Nat) (a r : ByteArray) (l : List Va) (vl vr : Value) : Prop where
  box : W.heap[rb]? = some (.cells #[vl, .map (some mb), vr] 78 (0, 0))
  key : W.heap[kb]? = some (.cells #[.string a, .string r] 62 (0, 0))
  seen : SeenP W mb l
  below : Below w.heap.size w W
theorem PkW.keep {w W W' : World} {rb mb kb : Nat} {a r : ByteArray} {l : List Va} {vl vr : Value} (h : PkW w W rb mb kb a r l vl vr) (hb : Below W.heap.size W W') : PkW w W' rb mb kb a r l vl vr :=
  ⟨(hb.block _ (block_lt h.box)).trans h.box, (hb.block _ (block_lt h.key)).trans h.key, h.seen.block (hb.block mb h.seen.lt), below_step h.below hb h.below.size⟩
theorem PkW.cell {w W : World} {rb mb kb : Nat} {a r : ByteArray} {l : List Va} {vl vr : Value} (h : PkW w W rb mb kb a r l vl vr) : W.cell? ⟨rb, 1, none⟩ = some (.map (some mb)) := by rw [blk_cell h.box]; rfl
/-- What stands between the operations of the set's growing. -/
def C9 (wd : World) (mb n : Nat) (D : DataW Unit) (kl : Lit) (l : Nat → Bool) (w : World) : Prop :=
  (l 6 = false → w = wd) ∧ (l 6 = true → w.ownsMap Tryz.prog 62 unitElem mb (n + 1) (D.put kl (.agg [])) ∧ wd.grownBy w (some mb))
theorem C9.step {wd w : World} {mb n i : Nat} {D : DataW Unit} {kl : Lit} {l : Nat → Bool} (h : C9 wd mb n D kl l w) (hi : 6 ≠ i) : C9 wd mb n D kl (Inv.done l i) w := by
  have e : Inv.done l i 6 = l 6 := if_neg hi
  unfold C9
  rw [e]
  exact h
theorem C9.block {wd w : World} {mb n k : Nat} {D : DataW Unit} {kl : Lit} {l : Nat → Bool} {o : Obj} (h : C9 wd mb n D kl l w) (hk : wd.heap[k]? = some o) (hne : k ≠ mb) : w.heap[k]? = some o := by
  cases h6 : l 6 with
  | false => rw [h.1 h6]; exact hk
  | true => exact ((h.2 h6).2.block k (block_lt hk) (fun e => hne (by injection e))).trans hk
theorem RdAt.turn {w W : World} {base rb mb : Nat} {ro : Nat → Nat} {vl vr : Value} {cs : List Value} {st : RSt} {M : Nat → Prop} (h : RdAt w base rb mb ro vl vr cs st) (hc : Ch w W M) (hM : ∀ b, M b → ro b = 0 ∨ b = mb) (hs : SeenE W mb st.1) : RdAt W base rb mb ro vl vr cs st := by
  have hro : ∀ b, M b → ro b = 0 ∨ ro b = 2 := fun b hb => by
    rcases hM b hb with e | rfl
    · exact .inl e
    · exact .inr h.rmb
  refine ⟨hc.heap h.box (fun hm => by have := h.rrb; rcases hro _ hm with e | e <;> omega), h.rrb, h.rmb, fun b hb => ⟨(h.all b hb).1, Nat.lt_of_lt_of_le (h.all b hb).2 hc.size⟩, h.lst.ch hc (fun b hm => by rcases hro b hm with e | e <;> omega), hc.own h.rcp (fun b hb hm => by have := h.rrcp b hb; rcases hro b hm with e | e <;> omega), h.rrcp, hs, h.few, h.txt⟩
set_option maxRecDepth 100000 in
set_option maxHeartbeats 4000000 in
theorem pack_yes (w : World) (base rb mb : Nat) (ro : Nat → Nat) (vl vr : Value) (cs : List Value) (st : RSt) (h : RdAt w base rb mb ro vl vr cs st) (hsn : SeenP w mb st.1) (hB : base ≤ w.heap.size) (s : ByteArray) (hs : s.size ≤ 1000000) (hok : twoOk s = true ∧ rightB (bA 32 s) = true ∧ okS (bR 32 s) = true ∧ st.1.length ≠ 2000) :
    Calls Tryz.prog 71 #[.pointer (some ⟨rb, 0, none⟩), .string s] w (MPost w base rb mb ro st.1 (packE st.1 s) (packN st s)) := by
  obtain ⟨ht, hrn, hov, hn⟩ := hok
  have hPE := packE_dup (l := st.1) (s := s) ⟨ht, hrn, hov, hn⟩
  have hT := two_any s w (by unfold maxLen; omega)
  unfold TwoPost at hT
  rw [ht] at hT
  have hA : (bA 32 s).size ≤ 1000000 := by have := bA_le 32 s; omega
  have hR : (bR 32 s).size ≤ 1000000 := by have := bR_le 32 s; omega
  have hPN : packN st s = (closeS st ++ [⟨bA 32 s, bR 32 s, [], [], ⟨#[]⟩⟩], ⟨#[]⟩) := rfl
  obtain ⟨z, hz⟩ : ∃ z : Int, z = (if dupV st.1 (bA 32 s) (bR 32 s) = true then 151 else 0) := ⟨_, rfl⟩
  rw [hPE, hPN, ← hz]
  have HZ0 := Lib.hid hz
  clear hPE hPN ht hz
  generalize bA 32 s = a at *
  generalize bR 32 s = r at *
  have HRI := Lib.hid (fun w' => right_any a w' (by unfold maxLen; omega))
  rw [hrn] at HRI
  have HV := Lib.hid (fun w' => vparse_e r w' hR)
  rw [hov] at HV
  simp only [if_pos] at HV
  obtain ⟨A0, c0, rfl⟩ := own_form h.lst.own
  have HH := Lib.hid (And.intro h (And.intro hsn (And.intro hA (And.intro hR hB))))
  have HN := Lib.hid hn
  have HC := Lib.hid (fun w' (hb : Below w.heap.size w w') => (h.ch (Ch.of_below hb (fun b => ¬ b < w.heap.size) (fun k hk h2 => by omega)) (fun b hb => by
    have := h.all b
    by_cases e : ro b = 0
    · exact e
    · have := this e; omega)))
  have hnI : ((st.1.length : Int) == 2000) = false := by rw [beq_eq_false_iff_ne]; omega
  have HTW := Lib.hid hT
  clear h hsn hT hA hR hs hn hrn hov hB
  go_enter Tryz.func71, Tryz.ntmps71
  go_upto_region 6 with (first
    | (go_at_call 102; refine HTW.out.mono ?_; rintro e w1 ⟨rfl, nq, rfl⟩)
    | (go_at_call 57; refine (HRI.out _).mono ?_; rintro e W2 ⟨rfl, hw2⟩; obtain rfl := hw2)
    | (go_at_call 58; refine (HV.out _).mono ?_; rintro e W3 ⟨A3, n3, c3, t3, rfl, hb3⟩
       have hbn := (below_drewN (Below.refl w.heap.size w) nq).trans (hb3.mono (by rw [heap_drewN]; exact Nat.le_refl _))
       have hb5 := below_step hbn ((Below.refl W3.heap.size W3).alloc (Nat.le_refl _) (.cells #[.slice A3 n3 c3, .string t3] 101)) hbn.size
       obtain ⟨k0, _⟩ := (HC.out _ hb5).cells))
  have hb6 := below_step hb5 ((Below.refl (W3.alloc (.cells #[.slice A3 n3 c3, .string t3] 101)).heap.size _).alloc (Nat.le_refl _) (.cells #[.string a, .string r] 62)) hb5.size
  have hkb := heap_alloc_new (W3.alloc (.cells #[.slice A3 n3 c3, .string t3] 101)) (.cells #[.string a, .string r] 62)
  rw [World.size_alloc] at hkb
  clear k0 hb5 hbn hb3
  generalize (W3.alloc (.cells #[.slice A3 n3 c3, .string t3] 101)).alloc (.cells #[.string a, .string r] 62) = W6 at *
  generalize W3.heap.size + 1 = kb at *
  have hP : PkW w W6 rb mb kb a r st.1 (.slice A0 st.1.length c0) vr := ⟨(HC.out _ hb6).box, hkb, HH.out.2.1.block (hb6.block mb HH.out.2.1.lt), hb6⟩
  have HP := Lib.hid (fun w' (hC : KeepW W6 W6.heap.size w') => hP.keep hC.1)
  clear hkb hb6 hP
  obtain ⟨tw, htw⟩ : ∃ tw, dupV st.1 a r = tw := ⟨_, rfl⟩
  have HTWI := Lib.hid htw
  clear htw hnI
  refine Inv.wp_region_invG (by kernel_rfl) (fun _ w' => KeepW W6 W6.heap.size w') (fun k v w' => RP W6.heap.size ((kinds6 rb mb a r tw).getD k .non) v w') (Inv.formG_spec (by kernel_rfl)) (KeepW.start (Nat.le_refl _)).drew (Inv.Each.steps ?_ rfl) (fun f wc _ HKC _ hR => ?_)
  · refine ⟨?_, ?_, ?_, ?_, ?_, ?_, ?_, ?_, ?_, ?_, ?_, ?_, trivial⟩
    · refine Inv.StepG.of_run rfl (fun _ _ _ => rfl) (fun a1 w' l hl hC hdep hdone hfix => ?_)
      have e0 : a1.eval (.tmp 0) = .pointer (some ⟨rb, 0, none⟩) := (hfix 0 (by decide)).trans rfl
      exact ⟨a1.eval (.tmp 0), w', rfl, hC, e0, fun _ _ _ h => h⟩
    · refine Inv.StepG.of_run rfl (fun _ _ _ => rfl) (fun a1 w' l hl hC hdep hdone hfix => ?_)
      have e0 : a1.eval (.tmp 47) = .pointer (some ⟨rb, 0, none⟩) := hdep 0 _ 47 rfl rfl (by kernel_rfl)
      refine ⟨.pointer (some ⟨rb, 0, none⟩), w', ?_, hC, rfl, fun _ _ _ h => h⟩
      simp only [execOp, e0]
      kernel_rfl
    · refine Inv.StepG.of_run rfl (fun _ _ _ => rfl) (fun a1 w' l hl hC hdep hdone hfix => ?_)
      have e0 : a1.eval (.tmp 48) = .pointer (some ⟨rb, 0, none⟩) := hdep 1 _ 48 rfl rfl (by kernel_rfl)
      refine ⟨.pointer (some ⟨rb, 1, none⟩), w', ?_, hC, rfl, fun _ _ _ h => h⟩
      simp only [execOp, e0]
      kernel_rfl
    · refine Inv.StepG.of_run rfl (fun _ _ _ => rfl) (fun a1 w' l hl hC hdep hdone hfix => ?_)
      have e0 : a1.eval (.tmp 49) = .pointer (some ⟨rb, 1, none⟩) := hdep 2 _ 49 rfl rfl (by kernel_rfl)
      have hcl := (HP.out w' hC).cell
      refine ⟨.map (some mb), w', ?_, hC, rfl, fun _ _ _ h => h⟩
      simp only [execOp, e0]
      simp [go_sem, hcl]
    · refine Inv.StepG.of_run rfl (fun _ _ _ => rfl) (fun a1 w' l hl hC hdep hdone hfix => ?_)
      have e0 : a1.eval (.tmp 10) = .pointer (some ⟨kb, 0, none⟩) := (hfix 10 (by decide)).trans rfl
      refine ⟨.agg #[.string a, .string r], w', ?_, hC, rfl, fun _ _ _ h => h⟩
      simp only [execOp, e0, Instr.loadAt, Instr.sureAddr, Sem.run_bind, Sem.run_pure, Result.andThen_ok, load_key (HP.out w' hC).key]
    · refine Inv.StepG.of_run rfl (fun _ _ _ => rfl) (fun a1 w' l hl hC hdep hdone hfix => ?_)
      have e0 : a1.eval (.tmp 50) = .map (some mb) := hdep 3 _ 50 rfl rfl (by kernel_rfl)
      have e1 : a1.eval (.tmp 51) = .agg #[.string a, .string r] := hdep 4 _ 51 rfl rfl (by kernel_rfl)
      have hlk := (HP.out w' hC).seen.look (a := a) (r := r) (by have := HH.out.2.2.1; unfold maxLen; omega) (by have := HH.out.2.2.2.1; unfold maxLen; omega)
      rw [HTWI.out] at hlk
      refine ⟨.tuple #[.agg #[], .bool tw], w', ?_, hC, rfl, fun _ _ _ h => h⟩
      simp only [execOp, e0, e1]
      simp [hlk, Result.andThen]
    · refine Inv.StepG.of_run rfl (fun _ _ _ => rfl) (fun a1 w' l hl hC hdep hdone hfix => ?_)
      have e0 : a1.eval (.tmp 52) = .tuple #[.agg #[], .bool tw] := hdep 5 _ 52 rfl rfl (by kernel_rfl)
      exact ⟨a1.eval (.tmp 52), w', rfl, hC, e0, fun _ _ _ h => h⟩
    · refine Inv.StepG.of_run rfl (fun _ _ _ => rfl) (fun a1 w' l hl hC hdep hdone hfix => ?_)
      have e0 : a1.eval (.tmp 46) = .tuple #[.agg #[], .bool tw] := hdep 6 _ 46 rfl rfl (by kernel_rfl)
      refine ⟨.agg #[], w', ?_, hC, rfl, fun _ _ _ h => h⟩
      simp only [execOp, e0]
      kernel_rfl
    · refine Inv.StepG.of_run rfl (fun _ _ _ => rfl) (fun a1 w' l hl hC hdep hdone hfix => ?_)
      have e0 : a1.eval (.tmp 46) = .tuple #[.agg #[], .bool tw] := hdep 6 _ 46 rfl rfl (by kernel_rfl)
      refine ⟨.bool tw, w', ?_, hC, rfl, fun _ _ _ h => h⟩
      simp only [execOp, e0]
      kernel_rfl
    · refine Inv.StepG.of_run rfl (fun _ _ _ => rfl) (fun a1 w' l hl hC hdep hdone hfix => ?_)
      have hba : Below w'.heap.size w' (w'.alloc (.cells #[] 63)) := (Below.refl _ _).alloc (Nat.le_refl _) _
      refine ⟨.pointer (some ⟨w'.heap.size, 0, none⟩), w'.alloc (.cells #[] 63), ?_, hC.step hba, ⟨w'.heap.size, rfl, hC.2, heap_alloc_new w' _⟩, fun _ _ _ h => RP.below h hba⟩
      unfold execOp
      kernel_rfl
    · refine Inv.StepG.of_store rfl rfl (fun _ _ _ => rfl) (fun a1 w' l hl hC hdep hdone hfix => ?_)
      obtain ⟨g, e1, hg, hgb⟩ : ∃ g, a1.eval (.tmp 11) = .pointer (some ⟨g, 0, none⟩) ∧ W6.heap.size ≤ g ∧ w'.heap[g]? = some (.cells #[] 63 (0, 0)) := hdep 9 _ 11 rfl rfl (by kernel_rfl)
      have e2 : a1.eval (.tmp 53) = .agg #[] := hdep 7 _ 53 rfl rfl (by kernel_rfl)
      refine ⟨w'.setRow g #[], ?_, ⟨below_setRow hC.1 hg _, by rw [setRow_size]; exact hC.2⟩, fun _ _ _ h => RP.set h hgb⟩
      simp only [execOp, e1, e2, Instr.storeAt, Instr.sureAddr, Sem.run_bind, Sem.run_pure, Result.andThen_ok, run_storeVar_row (P := Tryz.prog) w' g _ 63 _ #[] hgb (by kernel_rfl) rfl (by simp)]
    · refine Inv.StepG.of_run rfl (fun _ _ _ => rfl) (fun a1 w' l hl hC hdep hdone hfix => ?_)
      have e0 : a1.eval (.tmp 54) = .bool tw := hdep 8 _ 54 rfl rfl (by kernel_rfl)
      exact ⟨a1.eval (.tmp 54), w', rfl, hC, e0, fun _ _ _ h => h⟩
  have hv12 : f 12 = .bool tw := hR 11 _ 12 rfl rfl
  simp only [Inv.dsts, List.filterMap_cons, List.filterMap_nil, List.foldl_cons, List.foldl_nil, Act.put, List.setIfInBounds_toArray, List.set_cons_succ, List.set_cons_zero]
  rw [hv12]
  have HPC := Lib.hid (HP.out wc HKC)
  clear hR hv12
  cases tw with
  | true =>
    have HZ := Lib.hid (show z = 151 by rw [HZ0.out, HTWI.out]; rfl)
    go_wp2
    go_ret
    exact ⟨by rw [HZ.out]; rfl, Ch.of_below HPC.out.below _ (fun k hk h => by omega), fun e => absurd (HZ.out.symm.trans e) (by decide)⟩
  | false =>
    have HZ := Lib.hid (show z = 0 by rw [HZ0.out, HTWI.out]; rfl)
    go_upto_region 9 with (fail)
    obtain ⟨D, hD, hh⟩ := HPC.out.seen
    have hne : rb ≠ mb ∧ kb ≠ mb := ⟨HH.out.1.rb_mb, fun e => by
      obtain ⟨es, c, h1, _⟩ := hD
      rw [← e, HPC.out.key] at h1; cases h1⟩
    have HNE := Lib.hid hne
    have HD9 := Lib.hid (show wc.drew.heap[rb]? = some (.cells #[.slice A0 st.1.length c0, .map (some mb), vr] 78 (0, 0)) ∧ wc.drew.heap[kb]? = some (.cells #[.string a, .string r] 62 (0, 0)) ∧ wc.drew.ownsMap Tryz.prog 62 unitElem mb st.1.length D from ⟨HPC.out.box, HPC.out.key, hD.drew⟩)
    have HHH := Lib.hid hh
    have HLN := Lib.hid (show st.1.length < maxLen by have := HH.out.1.few; unfold maxLen; omega)
    clear hne hD hh
    refine Inv.wp_region_invG (by kernel_rfl) (C9 wc.drew mb st.1.length D (kP a r)) (fun k v _ => RQ ((kinds9 rb mb a r).getD k .non) v) (Inv.formG_spec (by kernel_rfl)) ⟨fun _ => rfl, fun e => by cases e⟩ (Inv.Each.steps ?_ rfl) (fun f w9 l9 hC9 hall9 hR => ?_)
    · refine ⟨?_, ?_, ?_, ?_, ?_, ?_, ?_, trivial⟩
      · refine Inv.StepG.of_run rfl (fun _ _ _ => rfl) (fun a1 w' l hl hC hdep hdone hfix => ?_)
        have e0 : a1.eval (.tmp 0) = .pointer (some ⟨rb, 0, none⟩) := (hfix 0 (by decide)).trans rfl
        exact ⟨a1.eval (.tmp 0), w', rfl, hC.step (by decide), e0, fun _ _ _ h => h⟩
      · refine Inv.StepG.of_run rfl (fun _ _ _ => rfl) (fun a1 w' l hl hC hdep hdone hfix => ?_)
        have e0 : a1.eval (.tmp 56) = .pointer (some ⟨rb, 0, none⟩) := hdep 0 _ 56 rfl rfl (by kernel_rfl)
        refine ⟨.pointer (some ⟨rb, 0, none⟩), w', ?_, hC.step (by decide), rfl, fun _ _ _ h => h⟩
        simp only [execOp, e0]
        kernel_rfl
      · refine Inv.StepG.of_run rfl (fun _ _ _ => rfl) (fun a1 w' l hl hC hdep hdone hfix => ?_)
        have e0 : a1.eval (.tmp 57) = .pointer (some ⟨rb, 0, none⟩) := hdep 1 _ 57 rfl rfl (by kernel_rfl)
        refine ⟨.pointer (some ⟨rb, 1, none⟩), w', ?_, hC.step (by decide), rfl, fun _ _ _ h => h⟩
        simp only [execOp, e0]
        kernel_rfl
      · refine Inv.StepG.of_run rfl (fun _ _ _ => rfl) (fun a1 w' l hl hC hdep hdone hfix => ?_)
        have e0 : a1.eval (.tmp 58) = .pointer (some ⟨rb, 1, none⟩) := hdep 2 _ 58 rfl rfl (by kernel_rfl)
        have hcl : w'.cell? ⟨rb, 1, none⟩ = some (.map (some mb)) := by rw [blk_cell (hC.block HD9.out.1 HNE.out.1)]; rfl
        refine ⟨.map (some mb), w', ?_, hC.step (by decide), rfl, fun _ _ _ h => h⟩
        simp only [execOp, e0]
        simp [go_sem, hcl]
      · refine Inv.StepG.of_run rfl (fun _ _ _ => rfl) (fun a1 w' l hl hC hdep hdone hfix => ?_)
        have e0 : a1.eval (.tmp 10) = .pointer (some ⟨kb, 0, none⟩) := (hfix 10 (by decide)).trans rfl
        refine ⟨.agg #[.string a, .string r], w', ?_, hC.step (by decide), rfl, fun _ _ _ h => h⟩
        simp only [execOp, e0, Instr.loadAt, Instr.sureAddr, Sem.run_bind, Sem.run_pure, Result.andThen_ok, load_key (hC.block HD9.out.2.1 HNE.out.2)]
      · refine Inv.StepG.of_run rfl (fun _ _ _ => rfl) (fun a1 w' l hl hC hdep hdone hfix => ?_)
        refine ⟨.agg #[], w', ?_, hC.step (by decide), rfl, fun _ _ _ h => h⟩
        simp only [execOp]
        kernel_rfl
      · refine Inv.StepG.of_store rfl rfl (fun _ _ _ => rfl) (fun a1 w' l hl hC hdep hdone hfix => ?_)
        have e0 : a1.eval (.tmp 59) = .map (some mb) := hdep 3 _ 59 rfl rfl (by kernel_rfl)
        have e1 : a1.eval (.tmp 60) = .agg #[.string a, .string r] := hdep 4 _ 60 rfl rfl (by kernel_rfl)
        have e2 : a1.eval (.tmp 61) = .agg #[] := hdep 5 _ 61 rfl rfl (by kernel_rfl)
        obtain rfl := hC.1 hl
        obtain ⟨w2, hrun, ho2, hg2⟩ := HD9.out.2.2.update keyPair Tryz.underlying59 HLN.out (kP_key a r (by have := HH.out.2.2.1; unfold maxLen; omega) (by have := HH.out.2.2.2.1; unfold maxLen; omega)) unitElem_mk
        refine ⟨w2, ?_, ⟨fun e => ?_, fun _ => ⟨ho2, hg2⟩⟩, fun _ _ _ h => h⟩
        · simp only [execOp, e0, e1, e2]
          simp [hrun, Result.andThen]
        · have e6 : Inv.done l 6 6 = true := if_pos rfl
          rw [e6] at e; cases e
    simp only [Inv.dsts, List.filterMap_cons, List.filterMap_nil, List.foldl_cons, List.foldl_nil, Act.put, List.setIfInBounds_toArray, List.set_cons_succ, List.set_cons_zero]
    obtain ⟨ho9, hg9⟩ := hC9.2 (hall9 6 (by decide))
    have hc9 : Ch w w9 (fun b => b = mb ∨ ¬ b < w.heap.size) := ((Ch.of_below HPC.out.below (fun b => b = mb ∨ ¬ b < w.heap.size) (fun k hk h => by omega)).drew).grown hg9 (fun k _ e => .inl (by injection e with e; exact e.symm))
    have hs9 : SeenP w9 mb (st.1 ++ [⟨a, r, [], [], ⟨#[]⟩⟩]) := SeenP.put (x := ⟨a, r, [], [], ⟨#[]⟩⟩) (l := st.1) HD9.out.2.2 (by have := HH.out.2.2.1; show a.size ≤ maxLen; unfold maxLen; omega) (by have := HH.out.2.2.2.1; show r.size ≤ maxLen; unfold maxLen; omega) HHH.out ho9
    have hr9 := HH.out.1.turn hc9 (fun b hb => by
      rcases hb with e | e
      · exact .inr e
      · refine .inl ?_
        by_cases e0 : ro b = 0
        · exact e0
        · exact absurd (HH.out.1.all b e0).2 e) ⟨_, hs9⟩
    have HCL := Lib.hid (close_any w9 base rb mb ro _ vr cs st hr9)
    have H9 := Lib.hid (And.intro hc9 (And.intro hs9 hr9))
    have HFW := Lib.hid (show (closeS st).length < 2000 by show (setL _ _).length < 2000; rw [setL_len]; have h1 := HH.out.1.few; have h2 := HN.out; omega)
    have HB9 := Lib.hid (show base ≤ w9.heap.size by have := hc9.size; have := HH.out.2.2.2.2; omega)
    obtain ⟨i0, hi0, hz0, hz1, hz2⟩ := info_parts infoVar
    have HI := Lib.hid (And.intro hi0 (And.intro hz0 (And.intro hz1 hz2)))
    clear hR hC9 hall9 ho9 hg9 hc9 hs9 hr9 hi0 hz0 hz1 hz2
    go_wp2_with (first
      | (go_at_call 41; refine HCL.out.mono ?_; rintro e w10 ⟨rfl, ⟨cs', hq⟩, hch, hmbe⟩
         obtain ⟨c0', c1', c2', f0', f1', f2'⟩ := hq.cells)
      | (at_builtin
         have hlo : w10.ownsRow base 53 5 (.slice A0 st.1.length c0) st.1.length cs' := by
           have h1 := hq.lst.own
           rwa [show ((closeS st, (⟨#[]⟩ : ByteArray)) : RSt).1.length = st.1.length from setL_len _ _] at h1
         have hz10 := hch.size
         go_loud (refine wpList_appK rfl _ _ 22 rfl base 53 i0 _ 5 96 Tryz.underlying22 HI.out.1 HI.out.2.1 HI.out.2.2.1 HI.out.2.2.2 rfl (by decide) _ st.1.length cs' rfl (hlo.alloc _) ⟨w10.heap.size, 0, none⟩ 1 1 [.string a, .string r, .slice none 0 0, .slice none 0 0, .string ⟨#[]⟩] rfl rfl ?c1 ?c2 ?c3 ?c4 ?c5 ?_)
         case c1 => intro j u hu; exact row_cells (heap_alloc_new _ _) j u (by simpa using hu)
         case c2 => simp [Value.oneCell']
         case c3 => have := HH.out.1.few; unfold maxLen; omega
         case c4 => have := HH.out.1.few; omega
         case c5 => have := HB9.out; simp; omega
         intro v' w7 hown7 hgr7 hmv7
         obtain ⟨g7, c7, rfl⟩ := ownsRow_succ hown7
         have hbx : (w10.alloc (.cells #[.string a, .string r, .slice none 0 0, .slice none 0 0, .string ⟨#[]⟩] 53)).heap[rb]? = some (.cells #[.slice A0 st.1.length c0, .map (some mb), .slice none 0 0] 78 (0, 0)) := (old_block _ _ _ (block_lt hq.box)).trans hq.box
         have hb7 := (hgr7.block rb (block_lt hbx) (fun e => by have h1 := hq.lst.role rb e.symm; rw [hq.rrb] at h1; cases h1)).trans hbx
         have q0 : w7.cell? ⟨rb, 0, none⟩ = some (.slice A0 st.1.length c0) := by rw [blk_cell hb7]; rfl
         have g0 := blk_free hb7 0))
    obtain ⟨hc9, hs9, hr9⟩ := H9.out
    have hal : Below w10.heap.size w10 (w10.alloc (.cells #[.string a, .string r, .slice none 0 0, .slice none 0 0, .string ⟨#[]⟩] 53)) := (Below.refl _ _).alloc (Nat.le_refl _) _
    have hmb7 : (w7.setCell ⟨rb, 0, none⟩ (.slice (some ⟨g7, 0, none⟩) (st.1.length + 1) c7)).heap[mb]? = w9.heap[mb]? := by
      have hmlt := hs9.lt
      have hml2 : mb < w10.heap.size := Nat.lt_of_lt_of_le hmlt hch.size
      refine (Below.heap_setCell _ _ _ _ (show mb ≠ rb from fun e => HNE.out.1 e.symm)).trans ((hgr7.block mb (by simp; omega) (fun e => ?_)).trans ((hal.block mb hml2).trans hmbe))
      have h1 := hq.lst.role mb e.symm
      rw [hq.rmb] at h1; cases h1
    have hsx := hs9.block hmb7
    have hcl : (closeS st).length = st.1.length := setL_len _ _
    have hpush := RdAt.push (x := ⟨a, r, [], [], ⟨#[]⟩⟩) hq ⟨rfl, rfl⟩ ⟨HH.out.2.2.1, HH.out.2.2.2.1⟩ HFW.out hal hgr7 hmv7 (by rw [hcl]; exact hown7) ⟨_, hsx⟩
    obtain ⟨p1, p2, p3⟩ := hpush
    go_ret
    refine ⟨by rw [HZ.out]; rfl, ?_, fun _ => ⟨_, _, _, _, p1, fun b hb h0 => p3 b (by have := hc9.size; have := hch.size; omega) h0, fun _ => hsx.sas (by simp [hcl]) (fun u v => ?_)⟩⟩
    · refine ((hc9.weak (M' := fun b => Rdr ro b ∨ ¬ b < w.heap.size) (fun b _ hb => ?_)).trans (M' := Rdr ro) hch (fun k _ hk => .inl hk)).trans (M' := Rdr ro) p2 (fun k _ hk => .inl hk) |>.weak (fun b hb hm => ?_)
      · rcases hb with e | e
        · exact .inl (by show ro b ≠ 0; rw [e, HH.out.1.rmb]; decide)
        · exact .inr e
      · rcases hm with h | h
        · exact h
        · exact absurd hb h
    · rw [dupV_snoc, dupV_snoc]
      congr 1
      exact dupV_set _ _ u v rfl rfl
end Go.Proofs.YtcnedecmmplmoaaGreatDoor
