/- drv's reference: Closure. -/
import Derived.Test.YtbniilajffjfcaaGreatDoorDmD3
import Derived.Test.YtbniilajffjfcaaGreatDoorDmD4
import Derived.Test.YtbniilajffjfcaaGreatDoorShelf
set_option linter.unusedVariables false
set_option linter.unusedSimpArgs false
namespace Go.Proofs.YtbniilajffjfcaaGreatDoor
open Go.RowKit Go.BigFrame
open Drv (posO edges edgeAt dupB addNew closeF closeL)

theorem irow_grow {w w' : World} {v v' u : Value} {l : List Int} (h : IRow w (fun b => v.ownBlock ≠ some b) u l) (hg : w.grownBy w' v.ownBlock) (hm : Moved w v v') : IRow w' (fun b => v'.ownBlock ≠ some b) u l := by
  have h1 : IRow w (fun b => v.ownBlock ≠ some b ∧ v'.ownBlock ≠ some b) u l := RdS.weak h fun b hb hs => ⟨hs, hm.ne hb hs⟩
  have h2 : IRow w' (fun b => v.ownBlock ≠ some b ∧ v'.ownBlock ≠ some b) u l := RdS.keep h1 ((SameS.grown hg).weak fun b _ hs => hs.1)
  exact RdS.weak h2 fun b _ hs => hs.2
theorem wpList_push {w : World} {ops : Array Oper} {rest : List Oper} {o : Oper} {a : Act} {Q : Exit → Act → World → Prop} (hgd : o.guard = none) (s x : Operand)
    (ho : o.op = .call { callee := .builtin .append, args := #[s, x], argTypes := #[51, 51] })
    (base : Nat) (v : Value) (l : List Nat) (hs : a.eval s = v) (hown : w.ownsRow base 3 1 v l.length (ints (ofN l))) (ad : Addr) (p : Nat) (hx : a.eval x = .slice (some ad) 1 1) (hc : w.cell? ad = some (.int .i64 (p : Int))) (hl : l.length ≤ 1000000000000) (hbase : base ≤ w.heap.size) (l2 : List Nat) (hl2 : l2 = l ++ [p])
    (h : ∀ A c w', w'.ownsRow base 3 1 (.slice A l2.length c) l2.length (ints (ofN l2)) → Below base w w' → w.grownBy w' v.ownBlock → Moved w v (.slice A l2.length c) → wpList Tryz.prog ops Q rest (a.put o.dst (.slice A l2.length c)) w') : wpList Tryz.prog ops Q (o :: rest) a w := by
  subst hl2
  obtain ⟨i0, hi, hz0, hz1, hz2⟩ := info_parts infoInt
  have hc' : ∀ j u, [Value.int .i64 (p : Int)][j]? = some u → w.cell? (ad.add j) = some u := fun j u hu => by
    match j, hu with
    | 0, hu => simp at hu; subst hu; rw [add_zero]; exact hc
  refine wpList_app hgd s x 51 ho base 3 i0 (.int .i64 0) 8 Tryz.underlying51 hi hz0 hz1 hz2 rfl v l.length _ hs hown ad 1 1 [.int .i64 (p : Int)] hx rfl hc' (by intro u hu; simp at hu; subst hu; rfl) (by unfold maxLen; omega) (by omega) hbase ?_
  intro v' w1 hown1 hgrow1 hm
  have h2 : w1.ownsRow base 3 1 v' (l ++ [p]).length (ints (ofN (l ++ [p]))) := by rw [ofN_snoc, ints_snoc2, List.length_append]; exact hown1
  obtain ⟨A, c, rfl⟩ := own_form h2
  exact h A c w1 h2 ((Below.refl _ _).mono hbase |>.grown hgrow1 hbase fun g e => (hown.lt g e).1) hgrow1 hm
def closL (names : List ByteArray) (needs : List (List ByteArray)) (roots : List ByteArray) : List Nat := if dupB names then [] else closeL names.length (edgeAt names needs) (edges names roots)
def closC (names : List ByteArray) : Int := if dupB names then 151 else 0
theorem addNew_have {got row : List Nat} {x : Nat} (h : x ∈ addNew got row) : addNew got (row ++ [x]) = addNew got row := by rw [Drv.addNew_snoc, if_pos h]
theorem addNew_new {got row : List Nat} {x : Nat} (h : x ∉ addNew got row) : addNew got (row ++ [x]) = addNew got row ++ [x] := by rw [Drv.addNew_snoc, if_neg h]
theorem addNew_len : ∀ (row got : List Nat), (addNew got row).length ≤ got.length + row.length
  | [], got => by simp [addNew]
  | y :: row, got => by
    unfold addNew
    rw [List.foldl_cons]
    by_cases h : y ∈ got
    · rw [if_pos h]; have := addNew_len row got; unfold addNew at this; simp; omega
    · rw [if_neg h]; have := addNew_len row (got ++ [y]); unfold addNew at this; simp at this ⊢; omega
/-- What is reached, so far; it is what will be reached. -/
structure ClR (n : Nat) (E : Nat → List Nat) (rs got : List Nat) (i : Nat) : Prop where
  found : Drv.Found n E rs got i
  eq : closeF E n (addNew [] rs) 0 = closeF E (n - i) got i
theorem ClR.len {n : Nat} {E : Nat → List Nat} {rs got : List Nat} {i : Nat} (h : ClR n E rs got i) : got.length ≤ n := Drv.nodup_le h.found.nodup h.found.lt
theorem ClR.first {n : Nat} {E : Nat → List Nat} {rs : List Nat} (hr : ∀ x ∈ rs, x < n) : ClR n E rs (addNew [] rs) 0 := ⟨Drv.Found.first hr, rfl⟩
theorem ClR.next {n : Nat} {E : Nat → List Nat} {rs got : List Nat} {i : Nat} (h : ClR n E rs got i) (hi : i < got.length) (hE : ∀ j, ∀ e ∈ E j, e < n) : ClR n E rs (addNew got (E (got.getD i 0))) (i + 1) :=
  ⟨h.found.next hi hE, h.eq.trans (Drv.close_step hi h.len)⟩
theorem ClR.last {n : Nat} {E : Nat → List Nat} {rs got : List Nat} {i : Nat} (h : ClR n E rs got i) (hi : ¬ i < got.length) : closeF E n (addNew [] rs) 0 = got := h.eq.trans (Drv.close_end hi)
def picked (got : List Nat) (k : Nat) : List Nat := (List.range k).filter (fun i => decide (i ∈ got))
theorem filter_snoc (k : Nat) (got : List Nat) : picked got (k + 1) = if k ∈ got then picked got k ++ [k] else picked got k := by
  unfold picked
  rw [List.range_succ, List.filter_append]
  by_cases h : k ∈ got <;> simp [h]
theorem filter_len (k : Nat) (got : List Nat) : (picked got k).length ≤ k := by
  unfold picked
  have := List.length_filter_le (fun i => decide (i ∈ got)) (List.range k)
  simpa using this
set_option maxRecDepth 100000 in
set_option maxHeartbeats 8000000 in
theorem refClosure_any (a b c : Value) (names : List ByteArray) (needs : List (List ByteArray)) (roots : List ByteArray) (w : World) (ha : TRow w AllB a names) (hb : TextsAt w b needs) (hc : TRow w AllB c roots) (hf : Few names needs) (hr : roots.length ≤ 100000) :
    Calls Tryz.prog 31 #[a, b, c] w (RowPost (closL names needs roots) (closC names) w) := by
  have HP := Lib.hid (fun (u : Value) (w' : World) (l : List Nat) (x : Int) (hl : l = closL names needs roots) (hx : x = closC names) (h1 : w'.ownsRow w.heap.size 3 1 u l.length (ints (ofN l))) (h2 : Below w.heap.size w w') => RowPost.of hl hx h1 h2)
  generalize RowPost (closL names needs roots) (closC names) w = post at *
  have HTW := Lib.hid (twice_any a names w ha)
  have HPL := Lib.hid (fun (s : ByteArray) (w2 : World) (h : Below w.heap.size w w2) => place_any a names s w2 (RdS.below ha h))
  have HED := Lib.hid (fun (i : Nat) (hi : i ≤ 1000000) (w2 : World) (h : Below w.heap.size w w2) => show Calls Tryz.prog 57 #[a, b, .int .i64 (i : Int)] w2 (fun e w' => ∃ u, e = .returned u ∧ w'.ownsRow w2.heap.size 3 1 u (edgeAt names needs i).length (ints (ofN (edgeAt names needs i))) ∧ Below w2.heap.size w2 w') from edges_any a b names needs i w2 (RdS.below ha h) (TextsAt.below hb h) hf hi)
  have hn := hf.n
  have HCR := Lib.hid (fun (w2 : World) (h : Below w.heap.size w w2) => show TRow w2 AllB c roots from RdS.below hc h)
  obtain ⟨A, ca, rfl, hla, hma⟩ := RdS.form ha
  obtain ⟨B, cb, rfl, hlb, hmb⟩ := OutS.form hb
  obtain ⟨C, cc, rfl, hlc, hmc⟩ := RdS.form hc
  unfold maxLen at hma hmb hmc
  have HF := Lib.hid hf
  clear ha hb hf hc
  cases hd : dupB names
  · have HL := Lib.hid (show closL names needs roots = closeL names.length (edgeAt names needs) (edges names roots) by unfold closL; rw [hd]; rfl)
    have HC := Lib.hid (show (0 : Int) = closC names by unfold closC; rw [hd]; rfl)
    rw [hd] at HTW
    have HEL := Lib.hid (fun (i : Nat) => show (edgeAt names needs i).length ≤ 100000 from by
      unfold edgeAt
      refine Nat.le_trans (Drv.edges_len _ _) ?_
      by_cases h : i < needs.length
      · exact (HF.out.row _ (getD_row h)).1
      · rw [getD_nil h]; exact Nat.zero_le _)
    have HELT := Lib.hid (fun (j : Nat) (e : Nat) (h : e ∈ edgeAt names needs j) => Drv.edgeAt_lt h)
    generalize edgeAt names needs = E at *
    clear hd
    go_enter Tryz.func31, Tryz.ntmps31
    go_wp2_with fail
    refine HTW.out.mono ?_
    rintro e w' ⟨rfl, hw⟩
    obtain rfl := hw.symm
    go_wp2
    go_loopw [8, 9] (fun gv iv wr => ∃ (k : Nat) (A' : Option Addr) (c' : Nat), k ≤ roots.length ∧ iv = .int .i64 (k : Int) ∧ gv = .slice A' (addNew [] (edges names (roots.take k))).length c' ∧ Hid (wr.ownsRow w.heap.size 3 1 (.slice A' (addNew [] (edges names (roots.take k))).length c') (addNew [] (edges names (roots.take k))).length (ints (ofN (addNew [] (edges names (roots.take k)))))) ∧ Hid (Below w.heap.size w wr)) (fun _ iv _ => roots.length - (intOf iv).toNat)
    case atStart => exact ⟨0, none, 0, by omega, rfl, rfl, Lib.hid (World.ownsRow_nil _ _ _ _), Lib.hid (Below.refl _ _)⟩
    case round =>
      obtain ⟨k, Ag, cg, hk, rfl, rfl, HO, HBW⟩ := hrel
      by_cases hlt : k < roots.length
      · obtain ⟨ad, rfl, hcx⟩ := TRow.get (HCR.out wr HBW.out) k hlt
        have HT := Lib.hid (Drv.take_snoc roots k _ (getD_at hlt))
        have HGL := Lib.hid (Nat.le_trans (addNew_len (edges names (roots.take k)) []) (Nat.add_le_add_left (Nat.le_trans (Drv.edges_len names (roots.take k)) (List.length_take_le _ _)) _))
        have hki : (k : Int) < (roots.length : Int) := by omega
        have HP1 := Lib.hid (HPL.out (roots.getD k ⟨#[]⟩) wr HBW.out)
        obtain ⟨s, hs⟩ : ∃ s, s = roots.getD k ⟨#[]⟩ := ⟨_, rfl⟩
        rw [← hs] at hcx HT HP1
        clear hs
        have HES := Lib.hid (Drv.edges_snoc names (roots.take k) s)
        rw [← HT.out] at HES
        cases hpos : posO names s with
        | none =>
          have hpl : placeI names s = -1 := by unfold placeI; rw [hpos]
          rw [hpl] at HP1
          rw [hpos] at HES
          have HO2 : Hid (wr.ownsRow w.heap.size 3 1 (.slice Ag (addNew [] (edges names (roots.take (k + 1)))).length cg) (addNew [] (edges names (roots.take (k + 1)))).length (ints (ofN (addNew [] (edges names (roots.take (k + 1))))))) := Lib.hid (by rw [HES.out]; exact HO.out)
          have HLE := Lib.hid (show (addNew [] (edges names (roots.take k))).length = (addNew [] (edges names (roots.take (k + 1)))).length by rw [HES.out])
          clear HT hpos hpl HO
          go_wp2_with fail
          refine HP1.out.mono ?_
          rintro e w' ⟨rfl, hw⟩
          obtain rfl := hw.symm
          go_wp2
          go_roundw
          case rel => exact ⟨k + 1, Ag, cg, by omega, by go_num, by rw [HLE.out], HO2, HBW⟩
          case measure => simp [intOf]; omega
        | some p =>
          have hpl : placeI names s = (p : Int) := by unfold placeI; rw [hpos]
          rw [hpl] at HP1
          rw [hpos] at HES
          have hp0 : (0 : Int) ≤ (p : Int) := by omega
          have HHA := Lib.hid (has_any _ (ofN (addNew [] (edges names (roots.take k)))) (p : Int) _ wr (irow_own HO.out))
          rw [contains_ofN] at HHA
          cases hm : decide (p ∈ addNew [] (edges names (roots.take k)))
          · rw [hm] at HHA
            have HAN := Lib.hid (show addNew [] (edges names (roots.take (k + 1))) = addNew [] (edges names (roots.take k)) ++ [p] by rw [HES.out]; exact addNew_new (of_decide_eq_false hm))
            have hgl := HGL.out
            have hbs := HBW.out.size
            simp only [List.length_nil] at hgl
            clear hm hpos hpl HT
            go_wp2_with fail
            refine HP1.out.mono ?_
            rintro e w' ⟨rfl, hw⟩
            obtain rfl := hw.symm
            go_wp2_with fail
            refine HHA.out.mono ?_
            rintro e w' ⟨rfl, hw⟩
            obtain rfl := hw.symm
            go_wp2_with (at_builtin; refine wpList_push rfl _ _ rfl w.heap.size _ (addNew [] (edges names (roots.take k))) rfl (HO.out.alloc _) ⟨wr.heap.size, 0, none⟩ p rfl ?_ ?_ ?_ _ HAN.out ?_)
            · exact (cell_of_row _ _ _ _ _ _ (heap_alloc_new wr _)).trans rfl
            · omega
            · simp; omega
            · intro A3 c3 w3 hown3 hb3 _ _
              have HB3 := Lib.hid ((HBW.out.alloc hbs (.cells #[.int .i64 (p : Int)] 3)).trans hb3)
              have HO3 := Lib.hid hown3
              clear hown3 hb3
              go_wp2
              go_roundw
              case rel => exact ⟨k + 1, A3, c3, by omega, by go_num, rfl, HO3, HB3⟩
              case measure => simp [intOf]; omega
          · rw [hm] at HHA
            have HAN := Lib.hid (show addNew [] (edges names (roots.take (k + 1))) = addNew [] (edges names (roots.take k)) by rw [HES.out]; exact addNew_have (of_decide_eq_true hm))
            have HO2 : Hid (wr.ownsRow w.heap.size 3 1 (.slice Ag (addNew [] (edges names (roots.take (k + 1)))).length cg) (addNew [] (edges names (roots.take (k + 1)))).length (ints (ofN (addNew [] (edges names (roots.take (k + 1))))))) := Lib.hid (by rw [HAN.out]; exact HO.out)
            have HLE := Lib.hid (show (addNew [] (edges names (roots.take k))).length = (addNew [] (edges names (roots.take (k + 1)))).length by rw [HAN.out])
            clear hm hpos hpl HT
            go_wp2_with fail
            refine HP1.out.mono ?_
            rintro e w' ⟨rfl, hw⟩
            obtain rfl := hw.symm
            go_wp2_with fail
            refine HHA.out.mono ?_
            rintro e w' ⟨rfl, hw⟩
            obtain rfl := hw.symm
            go_wp2
            go_roundw
            case rel => exact ⟨k + 1, Ag, cg, by omega, by go_num, by rw [HLE.out], HO2, HBW⟩
            case measure => simp [intOf]; omega
      · have hki : ¬ (k : Int) < (roots.length : Int) := by omega
        have HC0 := Lib.hid (show ClR names.length E (edges names roots) (addNew [] (edges names (roots.take k))) 0 from by
          rw [List.take_of_length_le (by omega)]
          exact ClR.first fun x hx => Drv.edges_lt hx)
        generalize addNew [] (edges names (roots.take k)) = got0 at *
        obtain ⟨wA, hwA⟩ : ∃ wA, wA = wr := ⟨_, rfl⟩
        subst hwA
        go_wp2
        go_loopw [8, 11] (fun gv iv wr => ∃ (i : Nat) (got : List Nat) (A' : Option Addr) (c' : Nat), i ≤ names.length ∧ iv = .int .i64 (i : Int) ∧ gv = .slice A' got.length c' ∧ Hid (ClR names.length E (edges names roots) got i) ∧ Hid (wr.ownsRow w.heap.size 3 1 (.slice A' got.length c') got.length (ints (ofN got))) ∧ Hid (Below w.heap.size w wr)) (fun _ iv _ => names.length - (intOf iv).toNat)
        case atStart => exact ⟨0, got0, Ag, cg, by omega, rfl, rfl, HC0, HO, HBW⟩
        case round =>
          clear HC0 HO HBW
          obtain ⟨i, got, Ag, cg, hin, rfl, rfl, HCL, HO, HBW⟩ := hrel
          have hgn := HCL.out.len
          by_cases hlt : i < got.length
          · have hii : (i : Int) < (got.length : Int) := by omega
            obtain ⟨ad, rfl, hcx⟩ := IRow.get (irow_own HO.out) i (by rw [ofN_len]; exact hlt)
            rw [ofN_get got i hlt] at hcx
            have hgi := HCL.out.found.lt (got.getD i 0) (by simp [List.getD, hlt])
            have HEI := Lib.hid (HED.out (got.getD i 0) (by omega) wr HBW.out)
            have HNX := Lib.hid (HCL.out.next hlt HELT.out)
            have hel := HEL.out (got.getD i 0)
            have HILT := Lib.hid (show i < names.length by omega)
            generalize got.getD i 0 = q at *
            obtain ⟨L, hL⟩ : ∃ L, L = E q := ⟨_, rfl⟩
            rw [← hL] at HEI HNX hel
            clear hL
            go_wp2_with fail
            refine HEI.out.mono ?_
            rintro e w3 ⟨u3, rfl, ho3, hb3⟩
            obtain ⟨A3, c3, rfl⟩ := own_form ho3
            have HU3 := Lib.hid (show IRow w3 (fun b => (Value.slice (some ad) got.length cg).ownBlock ≠ some b) (.slice A3 L.length c3) (ofN L) from RdS.weak (irow_own ho3) fun b _ hs e => by have := (HO.out.lt b e).2; omega)
            have HO3 := Lib.hid (own_below HO.out hb3 (Nat.le_refl _))
            have HB3 := Lib.hid (below_step HBW.out hb3 HBW.out.size)
            clear ho3 hb3 HO HBW hcx
            go_wp2
            go_loopw [8, 13] (fun gv kv w4 => ∃ (k : Nat) (A' : Option Addr) (c' : Nat), k ≤ L.length ∧ kv = .int .i64 (k : Int) ∧ gv = .slice A' (addNew got (L.take k)).length c' ∧ Hid (w4.ownsRow w.heap.size 3 1 (.slice A' (addNew got (L.take k)).length c') (addNew got (L.take k)).length (ints (ofN (addNew got (L.take k))))) ∧ Hid (IRow w4 (fun b => (Value.slice A' (addNew got (L.take k)).length c').ownBlock ≠ some b) (.slice A3 L.length c3) (ofN L)) ∧ Hid (Below w.heap.size w w4)) (fun _ kv _ => L.length - (intOf kv).toNat)
            case atStart => exact ⟨0, some ad, cg, by omega, rfl, rfl, HO3, HU3, HB3⟩
            case round =>
              clear HO3 HU3 HB3
              obtain ⟨k, Ak, ck, hk, rfl, rfl, HO, HU, HBW⟩ := hrel
              by_cases hlk : k < L.length
              · have hki : (k : Int) < (L.length : Int) := by omega
                obtain ⟨ad3, rfl, hcx⟩ := IRow.get HU.out k (by rw [ofN_len]; exact hlk)
                rw [ofN_get L k hlk] at hcx
                have HT := Lib.hid (show L.take (k + 1) = L.take k ++ [L.getD k 0] from Drv.take_snoc L k _ (by simp [List.getD, hlk]))
                have HGL := Lib.hid (Nat.le_trans (addNew_len (L.take k) got) (Nat.add_le_add_left (List.length_take_le _ _) _))
                generalize L.getD k 0 = p at *
                have HHA := Lib.hid (has_any _ (ofN (addNew got (L.take k))) (p : Int) _ wr (irow_own HO.out))
                rw [contains_ofN] at HHA
                cases hm : decide (p ∈ addNew got (L.take k))
                · rw [hm] at HHA
                  have HAN := Lib.hid (show addNew got (L.take (k + 1)) = addNew got (L.take k) ++ [p] by rw [HT.out]; exact addNew_new (of_decide_eq_false hm))
                  have hgl := HGL.out
                  have hbs := HBW.out.size
                  clear hm HT
                  go_wp2_with fail
                  refine HHA.out.mono ?_
                  rintro e w' ⟨rfl, hw⟩
                  obtain rfl := hw.symm
                  go_wp2_with (at_builtin; refine wpList_push rfl _ _ rfl w.heap.size _ (addNew got (L.take k)) rfl (HO.out.alloc _) ⟨wr.heap.size, 0, none⟩ p rfl ?_ ?_ ?_ _ HAN.out ?_)
                  · exact (cell_of_row _ _ _ _ _ _ (heap_alloc_new wr _)).trans rfl
                  · omega
                  · simp; omega
                  · intro A5 c5 w5 hown5 hb5 hg5 hm5
                    have HB5 := Lib.hid ((HBW.out.alloc hbs (.cells #[.int .i64 (p : Int)] 3)).trans hb5)
                    have HU5 := Lib.hid (irow_grow (RdS.below HU.out ((Below.refl _ _).alloc (Nat.le_refl _) (.cells #[.int .i64 (p : Int)] 3))) hg5 hm5)
                    have HO5 := Lib.hid hown5
                    clear hown5 hb5 hg5 hm5
                    go_wp2
                    go_roundw
                    case rel => exact ⟨k + 1, A5, c5, by omega, by go_num, rfl, HO5, HU5, HB5⟩
                    case measure => simp [intOf]; omega
                · rw [hm] at HHA
                  have HAN := Lib.hid (show addNew got (L.take k) = addNew got (L.take (k + 1)) by rw [HT.out]; exact (addNew_have (of_decide_eq_true hm)).symm)
                  have HO2 := Lib.hid HO.out
                  have HU2 := Lib.hid HU.out
                  rw [HAN.out] at HO2 HU2
                  clear hm HT HO HU
                  go_wp2_with fail
                  refine HHA.out.mono ?_
                  rintro e w' ⟨rfl, hw⟩
                  obtain rfl := hw.symm
                  go_wp2
                  go_roundw
                  case rel => exact ⟨k + 1, Ak, ck, by omega, by go_num, by rw [HAN.out], HO2, HU2, HBW⟩
                  case measure => simp [intOf]; omega
              · have hki : ¬ (k : Int) < (L.length : Int) := by omega
                have hke : L.take k = L := List.take_of_length_le (by omega)
                rw [hke] at HO
                have HKE := Lib.hid (show (addNew got (L.take k)).length = (addNew got L).length by rw [hke])
                clear hke HU
                go_wp2
                go_roundw
                case rel => exact ⟨i + 1, addNew got L, Ak, ck, by have := HILT.out; omega, by go_num, by rw [HKE.out], HNX, HO, HBW⟩
                case measure => (have := HILT.out; simp [intOf]; omega)
          · have hii : ¬ (i : Int) < (got.length : Int) := by omega
            have HLST := Lib.hid (HCL.out.last hlt)
            have HCLL := Lib.hid (show picked got names.length = closL names needs roots by rw [HL.out]; unfold closeL picked; rw [HLST.out])
            obtain ⟨wB, hwB⟩ : ∃ wB, wB = wr := ⟨_, rfl⟩
            subst hwB
            have HGO := Lib.hid (show IRow wB AllB (.slice Ag got.length cg) (ofN got) from RdS.all (irow_own HO.out))
            go_wp2
            go_loopw [14, 15] (fun ov kv w4 => ∃ (k : Nat) (A' : Option Addr) (c' : Nat), k ≤ names.length ∧ kv = .int .i64 (k : Int) ∧ ov = .slice A' (picked got k).length c' ∧ Hid (w4.ownsRow wB.heap.size 3 1 (.slice A' (picked got k).length c') (picked got k).length (ints (ofN (picked got k)))) ∧ Hid (Below wB.heap.size wB w4)) (fun _ kv _ => names.length - (intOf kv).toNat)
            case atStart => exact ⟨0, none, 0, by omega, rfl, rfl, Lib.hid (World.ownsRow_nil _ _ _ _), Lib.hid (Below.refl _ _)⟩
            case round =>
              obtain ⟨k, Ak, ck, hk, rfl, rfl, HOO, HBB⟩ := hrel
              by_cases hlk : k < names.length
              · have hki : (k : Int) < (names.length : Int) := by omega
                have HHA := Lib.hid (has_any _ (ofN got) (k : Int) _ wr (RdS.below HGO.out HBB.out))
                rw [contains_ofN] at HHA
                have HFS := Lib.hid (filter_snoc k got)
                have hfl := filter_len k got
                cases hm : decide (k ∈ got)
                · rw [hm] at HHA
                  rw [if_neg (of_decide_eq_false hm)] at HFS
                  have HO2 := Lib.hid HOO.out
                  rw [← HFS.out] at HO2
                  clear hm HOO
                  go_wp2_with fail
                  refine HHA.out.mono ?_
                  rintro e w' ⟨rfl, hw⟩
                  obtain rfl := hw.symm
                  go_wp2
                  go_roundw
                  case rel => exact ⟨k + 1, Ak, ck, by omega, by go_num, by rw [HFS.out], HO2, HBB⟩
                  case measure => simp [intOf]; omega
                · rw [hm] at HHA
                  rw [if_pos (of_decide_eq_true hm)] at HFS
                  have hbs := HBB.out.size
                  clear hm
                  generalize picked got k = F at *
                  go_wp2_with fail
                  refine HHA.out.mono ?_
                  rintro e w' ⟨rfl, hw⟩
                  obtain rfl := hw.symm
                  go_wp2_with (at_builtin; refine wpList_push rfl _ _ rfl wB.heap.size _ F rfl (HOO.out.alloc _) ⟨wr.heap.size, 0, none⟩ k rfl ?_ ?_ ?_ _ HFS.out ?_)
                  · exact (cell_of_row _ _ _ _ _ _ (heap_alloc_new wr _)).trans rfl
                  · omega
                  · simp; omega
                  · intro A5 c5 w5 hown5 hb5 _ _
                    have HB5 := Lib.hid ((HBB.out.alloc hbs (.cells #[.int .i64 (k : Int)] 3)).trans hb5)
                    have HO5 := Lib.hid hown5
                    clear hown5 hb5
                    go_wp2
                    go_roundw
                    case rel => exact ⟨k + 1, A5, c5, by omega, by go_num, rfl, HO5, HB5⟩
                    case measure => simp [intOf]; omega
              · have hki : ¬ (k : Int) < (names.length : Int) := by omega
                obtain rfl : k = names.length := by omega
                have HBF := Lib.hid (below_step HBW.out HBB.out HBW.out.size)
                have HOF := Lib.hid (own_base HOO.out HBW.out.size)
                go_wp2
                exact HP.out _ _ _ _ HCLL.out HC.out HOF.out HBF.out
  · have HL := Lib.hid (show ([] : List Nat) = closL names needs roots by unfold closL; rw [hd]; rfl)
    have HC := Lib.hid (show (151 : Int) = closC names by unfold closC; rw [hd]; rfl)
    rw [hd] at HTW
    clear hd
    go_enter Tryz.func31, Tryz.ntmps31
    go_wp2_with fail
    refine HTW.out.mono ?_
    rintro e w' ⟨rfl, hw⟩
    obtain rfl := hw.symm
    go_wp2
    exact HP.out _ _ _ _ HL.out HC.out (World.ownsRow_nil _ _ _ _) (Below.refl _ _)
end Go.Proofs.YtbniilajffjfcaaGreatDoor

/- drv: Closure's closure. -/
namespace Go.Proofs.YtbniilajffjfcaaGreatDoor
open Go.RowKit Go.BigFrame Go.Maps
open Drv (posO edges edgeAt dupB addNew)

def boolsV (l : List Bool) : List Value := l.map .bool
theorem boolsV_set (l : List Bool) (i : Nat) (x : Bool) : boolsV (l.set i x) = (boolsV l).set i (.bool x) := by simp [boolsV, List.map_set]
theorem boolsV_get (l : List Bool) (i : Nat) (h : i < l.length) : (boolsV l)[i]? = some (.bool (l.getD i false)) := by simp [boolsV, h, List.getD]
/-- What is seen, and what is found, in memory. -/
structure SeeW (base cs sb lc n : Nat) (w : World) (lv : Value) (sf : List Bool) (got : List Nat) : Prop where
  c1 : w.heap[cs]? = some (.cells #[.slice (some ⟨sb, 0, none⟩) n n] 94 (0, 0))
  c2 : w.heap[sb]? = some (.cells (boolsV sf).toArray 4 (0, 0))
  c3 : w.heap[lc]? = some (.cells #[lv] 51 (0, 0))
  own : w.ownsRow base 3 1 lv got.length (ints (ofN got))
  ls : sf.length = n
  sf : ∀ i, i < n → sf.getD i false = decide (i ∈ got)
  ne : cs ≠ sb ∧ cs ≠ lc ∧ sb ≠ lc
  no : lv.ownBlock ≠ some cs ∧ lv.ownBlock ≠ some sb ∧ lv.ownBlock ≠ some lc
  nodup : got.Nodup
  lt : ∀ x ∈ got, x < n
  bs : base ≤ w.heap.size
theorem SeeW.len {base cs sb lc n : Nat} {w : World} {lv : Value} {sf : List Bool} {got : List Nat} (H : SeeW base cs sb lc n w lv sf got) : got.length ≤ n := Drv.nodup_le H.nodup H.lt
def SeeM (sb lc : Nat) (lv : Value) : Nat → Prop := fun b => b = sb ∨ b = lc ∨ lv.ownBlock = some b
def SeePost (base cs sb lc n : Nat) (lv : Value) (got row : List Nat) (w : World) (e : Ending) (w' : World) : Prop :=
  e = .returned (.tuple #[]) ∧ ∃ lv' sf', SeeW base cs sb lc n w' lv' sf' (addNew got row) ∧ Ch w w' (SeeM sb lc lv) ∧ Moved w lv lv'
theorem SeeW.add {base cs sb lc n : Nat} {w w1 : World} {lv lv' : Value} {sf : List Bool} {got : List Nat} (H : SeeW base cs sb lc n w lv sf got) {p : Nat} (hp : p < n) (hn : p ∉ got) (o : Obj)
    (ho : w1.ownsRow base 3 1 lv' (got ++ [p]).length (ints (ofN (got ++ [p])))) (hg : ((w.setCell ⟨sb, p, none⟩ (.bool true)).alloc o).grownBy w1 lv.ownBlock) (hm : Moved ((w.setCell ⟨sb, p, none⟩ (.bool true)).alloc o) lv lv') :
    SeeW base cs sb lc n (w1.setCell ⟨lc, 0, none⟩ lv') lv' (sf.set p true) (got ++ [p]) ∧ Ch w (w1.setCell ⟨lc, 0, none⟩ lv') (SeeM sb lc lv) ∧ Moved w lv lv' := by
  obtain ⟨n1, n2, n3⟩ := H.ne
  obtain ⟨o1, o2, o3⟩ := H.no
  have keep : ∀ {k : Nat} {ob : Obj}, (w.setCell ⟨sb, p, none⟩ (.bool true)).heap[k]? = some ob → lv.ownBlock ≠ some k → k ≠ lc → (w1.setCell ⟨lc, 0, none⟩ lv').heap[k]? = some ob := fun {k ob} h h1 h2 =>
    (Below.heap_setCell _ _ _ _ (show k ≠ lc from h2)).trans ((hg.block k (by have := block_lt h; simp at this ⊢; omega) (fun e => h1 e.symm)).trans ((old_block _ o k (block_lt h)).trans h))
  have hz1 : w.heap.size < w1.heap.size := by have := hg.size; simp at this; omega
  have mne : ∀ k, k < w.heap.size → lv.ownBlock ≠ some k → lv'.ownBlock ≠ some k := fun k hk h => hm.ne (by simp; omega) h
  have hl3 : w1.heap[lc]? = some (.cells #[lv] 51 (0, 0)) := (hg.block lc (by have := block_lt H.c3; simp; omega) (fun e => o3 e.symm)).trans ((old_block _ o lc (by have := block_lt H.c3; simpa using this)).trans ((Below.heap_setCell _ _ _ _ (show lc ≠ sb from fun e => n3 e.symm)).trans H.c3))
  have m1 := mne cs (block_lt H.c1) o1
  have m2 := mne sb (block_lt H.c2) o2
  have m3 := mne lc (block_lt H.c3) o3
  refine ⟨⟨keep ((Below.heap_setCell _ _ _ _ (show cs ≠ sb from n1)).trans H.c1) o1 n2, ?_, blk_set hl3 0 _, ownsRow_setCell_other ho (a := ⟨lc, 0, none⟩) m3 _, by rw [List.length_set]; exact H.ls, fun i hi => ?_, H.ne, ⟨m1, m2, m3⟩, ?_, ?_, by simp; have := H.bs; omega⟩, ?_, ?_⟩
  · have h := keep (blk_set H.c2 p (.bool true)) o2 n3
    rw [h, boolsV_set]
    simp [List.setIfInBounds_toArray]
  · rw [List.getD_eq_getElem?_getD, List.getElem?_set]
    by_cases e : p = i
    · subst e
      rw [if_pos rfl, if_pos (by rw [H.ls]; exact hp)]
      simp
    · rw [if_neg e, ← List.getD_eq_getElem?_getD, H.sf i hi]
      have e' : ¬ i = p := fun h => e h.symm
      simp [e']
  · rw [List.nodup_append]
    exact ⟨H.nodup, by simp, fun a ha b hb => by rw [List.mem_singleton.1 hb]; exact fun h => hn (h ▸ ha)⟩
  · intro x hx
    rcases List.mem_append.1 hx with h | h
    · exact H.lt x h
    · rw [List.mem_singleton.1 h]; exact hp
  · exact ((((Ch.refl w _).setCell (p := ⟨sb, p, none⟩) (.inl rfl) _).alloc o).grown hg (fun k _ h => .inr (.inr h))).setCell (p := ⟨lc, 0, none⟩) (.inr (.inl rfl)) _
  · exact (Moved.refl w lv).trans hm (by simp)
set_option maxRecDepth 100000 in
set_option maxHeartbeats 4000000 in
theorem see_any (base cs sb lc n : Nat) (lv : Value) (sf : List Bool) (got row : List Nat) (v : Value) (w : World) (H : SeeW base cs sb lc n w lv sf got) (hr : IRow w (fun b => ¬ SeeM sb lc lv b) v (ofN row)) (hrn : ∀ x ∈ row, x < n) (hn : n ≤ 4000000) (hl : row.length ≤ 4000000) :
    Calls Tryz.prog 58 #[v, .pointer (some ⟨cs, 0, none⟩), .pointer (some ⟨lc, 0, none⟩)] w (SeePost base cs sb lc n lv got row w) := by
  have HP := Lib.hid (fun (w' : World) (lv' : Value) (sf' : List Bool) (h1 : SeeW base cs sb lc n w' lv' sf' (addNew got row)) (h2 : Ch w w' (SeeM sb lc lv)) (h3 : Moved w lv lv') => show SeePost base cs sb lc n lv got row w (.returned (.tuple #[])) w' from ⟨rfl, lv', sf', h1, h2, h3⟩)
  generalize SeePost base cs sb lc n lv got row w = post at *
  obtain ⟨A, ca, rfl, hla, hma⟩ := RdS.form hr
  rw [ofN_len] at *
  unfold maxLen at hma
  have HH := Lib.hid H
  have HRR := Lib.hid hr
  have HRN := Lib.hid hrn
  clear H hr hrn
  go_enter Tryz.func58, Tryz.ntmps58
  go_wp2
  go_loopw [8] (fun kv wr => ∃ (k : Nat) (lw : Value) (sw : List Bool), k ≤ row.length ∧ kv = .int .i64 k ∧ Hid (SeeW base cs sb lc n wr lw sw (addNew got (row.take k))) ∧ Hid (Ch w wr (SeeM sb lc lv)) ∧ Hid (Moved w lv lw)) (fun kv _ => row.length - (intOf kv).toNat)
  case atStart => exact ⟨0, lv, sf, by omega, rfl, HH, Lib.hid (Ch.refl _ _), Lib.hid (Moved.refl _ _)⟩
  case round =>
    clear HH
    obtain ⟨k, lw, sw, hk, rfl, HS, HC, HM⟩ := hrel
    by_cases hlt : k < row.length
    · have hki : (k : Int) < (row.length : Int) := by omega
      obtain ⟨ad, rfl, hcx⟩ := IRow.get (RdS.keep HRR.out (HC.out.same _ fun b _ h => h)) k (by rw [ofN_len]; exact hlt)
      rw [ofN_get row k hlt] at hcx
      have hpn := HRN.out (row.getD k 0) (by simp [List.getD, hlt])
      have HT := Lib.hid (show row.take (k + 1) = row.take k ++ [row.getD k 0] from Drv.take_snoc row k _ (by simp [List.getD, hlt]))
      generalize row.getD k 0 = p at *
      have hc1 : wr.cell? ⟨cs, 0, none⟩ = some (.slice (some ⟨sb, 0, none⟩) n n) := by rw [blk_cell HS.out.c1 0]; rfl
      have hsp := HS.out.sf p hpn
      have hc2 : wr.cell? ⟨sb, p, none⟩ = some (.bool (decide (p ∈ addNew got (row.take k)))) := by
        rw [blk_cell HS.out.c2 p, List.getElem?_toArray, boolsV_get _ _ (by rw [HS.out.ls]; exact hpn), hsp]
      have hpi : (p : Int) < (n : Int) := by omega
      have hf2 := blk_free HS.out.c2 p
      cases hm : decide (p ∈ addNew got (row.take k))
      · rw [hm] at hc2
        have HNI := Lib.hid (of_decide_eq_false hm)
        have HAN := Lib.hid (show addNew got (row.take (k + 1)) = addNew got (row.take k) ++ [p] by rw [HT.out]; exact addNew_new HNI.out)
        have HLN := Lib.hid HS.out.len
        have HLE := Lib.hid HS.out.bs
        obtain ⟨gk, hgk⟩ : ∃ gk, gk = addNew got (row.take k) := ⟨_, rfl⟩
        rw [← hgk] at HS HNI HAN HLN
        clear hm HT hsp hgk
        have hgl := HLN.out
        have hbs := HLE.out
        have hc3 : (wr.setCell ⟨sb, p, none⟩ (.bool true)).heap[lc]? = some (.cells #[lw] 51 (0, 0)) := (Below.heap_setCell _ _ _ _ (show lc ≠ sb from fun e => HS.out.ne.2.2 e.symm)).trans HS.out.c3
        have hc4 : (wr.setCell ⟨sb, p, none⟩ (.bool true)).cell? ⟨lc, 0, none⟩ = some lw := by rw [blk_cell hc3 0]; rfl
        have hc5 := blk_cell ((old_block _ (.cells #[.int .i64 (p : Int)] 3) lc (block_lt hc3)).trans hc3) 0
        have HOW := Lib.hid (ownsRow_setCell_other HS.out.own (a := ⟨sb, p, none⟩) HS.out.no.2.1 (.bool true))
        have HC3 := Lib.hid hc3
        have HNO := Lib.hid HS.out.no.2.2
        clear hc3
        go_wp2_with (at_builtin; refine wpList_push rfl _ _ rfl base _ gk rfl (HOW.out.alloc _) ⟨wr.heap.size, 0, none⟩ p rfl ?_ ?_ ?_ _ HAN.out ?_)
        · exact (blk_cell (new_at _ (.cells #[.int .i64 (p : Int)] 3) _ (by simp)) 0).trans rfl
        · omega
        · simp; omega
        · intro A1 c1 w1 hown1 _ hg1 hm1
          have hl3 : w1.heap[lc]? = some (.cells #[lw] 51 (0, 0)) := (hg1.block lc (by have := block_lt HC3.out; simp at this ⊢; omega) (fun e => HNO.out e.symm)).trans ((old_block _ (.cells #[.int .i64 (p : Int)] 3) lc (block_lt HC3.out)).trans HC3.out)
          have hl4 : w1.cell? ⟨lc, 0, none⟩ = some lw := by rw [blk_cell hl3 0]; rfl
          have hl5 := blk_free hl3 0
          obtain ⟨hs1, hch1, hmv1⟩ := HS.out.add hpn HNI.out (.cells #[.int .i64 (p : Int)] 3) (by rw [← HAN.out]; exact hown1) hg1 hm1
          rw [← HAN.out] at hs1
          have HS1 := Lib.hid hs1
          have HC1 := Lib.hid (HC.out.trans hch1 (fun b hb h => by
            rcases h with h | h | h
            · exact .inl h
            · exact .inr (.inl h)
            · refine .inr (.inr ?_)
              rcases HM.out with e | ⟨g, e, hg⟩
              · rw [← e]; exact h
              · rw [e] at h; cases h; omega))
          have HM1 := Lib.hid (HM.out.trans hmv1 HC.out.size)
          clear hl3 hs1 hch1 hmv1 hg1 hm1 hown1 HS HC HM
          go_wp2
          go_roundw
          case rel => exact ⟨k + 1, _, _, by omega, by go_num, HS1, HC1, HM1⟩
          case measure => simp [intOf]; omega
      · rw [hm] at hc2
        have HAN := Lib.hid (show addNew got (row.take k) = addNew got (row.take (k + 1)) by rw [HT.out]; exact (addNew_have (of_decide_eq_true hm)).symm)
        rw [HAN.out] at HS
        clear hm HT hsp HAN
        go_wp2
        go_roundw
        case rel => exact ⟨k + 1, lw, sw, by omega, by go_num, HS, HC, HM⟩
        case measure => simp [intOf]; omega
    · have hki : ¬ (k : Int) < (row.length : Int) := by omega
      have hke : row.take k = row := List.take_of_length_le (by omega)
      rw [hke] at HS
      clear hke
      go_wp2
      go_end0
      exact HP.out _ _ _ HS.out HC.out HM.out
end Go.Proofs.YtbniilajffjfcaaGreatDoor

/- drv: slices.Sort at a row of the call's own. -/
namespace Go.Proofs.YtbniilajffjfcaaGreatDoor
open Go.RowKit Go.BigFrame

def RowG (w : World) (g : Nat) (l : List Int) : Prop := ∀ j, j < l.length → w.cell? ⟨g, j, none⟩ = some (.int .i64 (l.getD j 0)) ∧ w.frozen? ⟨g, j, none⟩ = false
/-- The block g is a row of numbers, not frozen. -/
def BlkG (w : World) (g : Nat) (T : TypeId) (cap : Nat) : Prop := ∃ cur, w.heap[g]? = some (.cells cur T (0, 0)) ∧ cur.size = cap
theorem blk_putRow {α : Type} [Inhabited α] (enc : α → Value) {w : World} {g : Nat} {T : TypeId} {cap : Nat} (off : Nat) (d : Array α) (h : BlkG w g T cap) : BlkG (Go.Sort.putRow enc w g off d) g T cap := by
  obtain ⟨cur, h1, h2⟩ := h
  refine ⟨Go.Sort.putCells enc off d cur, ?_, by simp [Go.Sort.putCells, h2]⟩
  show (w.heap.modify g _)[g]? = _
  rw [Array.getElem?_modify, if_pos rfl, h1]; rfl
theorem own_of {w : World} {g base cap : Nat} {T : TypeId} {l : List Int} (hr : RowG w g l) (hb : BlkG w g T cap) (hc : l.length ≤ cap) (hm : cap ≤ maxLen) (hg : base ≤ g) : w.ownsRow base T 1 (.slice (some ⟨g, 0, none⟩) l.length cap) l.length (ints l) := by
  obtain ⟨cur, h1, h2⟩ := hb
  refine ⟨by simp [ints], .inr ⟨g, cap, cur, rfl, hg, h1, hc, hm, by omega, ?_⟩⟩
  apply List.ext_getElem?
  intro j
  rw [Nat.mul_one, List.getElem?_take]
  by_cases hj : j < l.length
  · rw [if_pos hj, ints_get l j hj]
    have := (hr j hj).1
    rw [cell_of_row _ _ _ _ _ _ h1] at this
    simpa using this
  · rw [if_neg hj]; simp [ints, hj]
def ButG (w w' : World) (g : Nat) : Prop := w.heap.size ≤ w'.heap.size ∧ w'.os = w.os ∧ w'.tape = w.tape ∧ w'.output = w.output ∧ (∀ b, b < w.heap.size → b ≠ g → w'.heap[b]? = w.heap[b]?) ∧ ∀ T cap, BlkG w g T cap → BlkG w' g T cap
theorem ButG.below {w w' : World} {g : Nat} (h : ButG w w' g) {B : Nat} (hB : B ≤ g) (hs : g < w.heap.size) : Below B w w' :=
  ⟨h.2.1, h.2.2.1, h.2.2.2.1, h.1, fun b hb => h.2.2.2.2.1 b (by omega) (by omega)⟩
theorem sorted_le (c : List Int) : (c.mergeSort fun x y => decide (x ≤ y)).Pairwise (· ≤ ·) := by
  have := List.pairwise_mergeSort (le := fun x y : Int => decide (x ≤ y)) (fun a b c h1 h2 => by simp at *; omega) (fun a b => by simp; omega) c
  exact this.imp fun h => of_decide_eq_true h
theorem sortI_any (l : List Int) (g cap : Nat) (w : World) (hr : RowG w g l) (hg : g < w.heap.size) (hn : l.length ≤ 4000000) :
    Calls Tryz.prog 60 #[.slice (some ⟨g, 0, none⟩) l.length cap] w fun e w' => e = .returned (.tuple #[]) ∧ RowG w' g (l.mergeSort fun x y => decide (x ≤ y)) ∧ ButG w w' g := by
  have hH : Go.Sort.Holds (Value.int .i64) w g 0 l.toArray := by
    intro j hj
    have hj' : j < l.length := by simpa using hj
    rw [Nat.zero_add, getElem!_pos l.toArray j hj]
    refine ⟨?_, (hr j hj').2⟩
    rw [(hr j hj').1]
    simp [List.getD, hj']
  refine (Tryz.slices_Sort_int g 0 cap l w hH hg (by omega)).mono ?_
  rintro e w' ⟨rfl, n, os, rfl⟩
  obtain ⟨s, hs⟩ : ∃ s, s = l.mergeSort fun x y => decide (x ≤ y) := ⟨_, rfl⟩
  have hsl : s.length = l.length := by rw [hs, List.length_mergeSort]
  rw [← hs]
  have hsz : s.toArray.size = l.toArray.size := by simp [hsl]
  have hgs : (Go.Sort.putRow (Value.int .i64) (Go.Sort.ahead w n) g 0 s.toArray).heap.size = w.heap.size := by rw [Go.Sort.size_putRow]; rfl
  have hHW := Go.Sort.holds_grow (Value.int .i64) _ os g 0 s.toArray (by rw [hgs]; exact hg) (Go.Sort.holds_putRow (Value.int .i64) (Go.Sort.ahead w n) g 0 l.toArray s.toArray (Go.Sort.holds_ahead _ w n g 0 _ hH) hsz)
  refine ⟨rfl, fun j hj => ?_, ?_, rfl, rfl, rfl, fun b hb hbg => ?_, fun T cap hb => ?_⟩
  · have hj2 : j < s.toArray.size := by simpa using hj
    have := hHW j hj2
    rw [Nat.zero_add, getElem!_pos _ j hj2] at this
    refine ⟨?_, this.2⟩
    rw [this.1]
    simp [List.getD, hj]
  · rw [Go.Sort.size_grow, hgs]; omega
  · rw [Go.Sort.heap_grow_old _ _ (by rw [hgs]; exact hb)]
    show ((Go.Sort.ahead w n).heap.modify g _)[b]? = _
    rw [Array.getElem?_modify, if_neg (by omega)]
    rfl
  · obtain ⟨cur, h1, h2⟩ := blk_putRow (w := Go.Sort.ahead w n) (Value.int .i64) 0 s.toArray hb
    refine ⟨cur, ?_, h2⟩
    rw [Go.Sort.heap_grow_old _ _ (by rw [hgs]; exact hg)]
    exact h1
theorem ButG.ch {w w' : World} {g : Nat} (h : ButG w w' g) : Ch w w' (fun k => k = g) := ⟨h.2.1, h.2.2.1, h.2.2.2.1, h.1, fun k hk hn => h.2.2.2.2.1 k hk hn⟩
theorem own_rowG {w : World} {base g n cap : Nat} {l : List Int} (h : w.ownsRow base 3 1 (.slice (some ⟨g, 0, none⟩) n cap) n (ints l)) (hn : n = l.length) : RowG w g l ∧ BlkG w g 3 cap ∧ g < w.heap.size ∧ n ≤ cap ∧ cap ≤ maxLen ∧ base ≤ g := by
  subst hn
  rcases h.2 with ⟨e, _⟩ | ⟨g', cap', cur, e, hg, hgg, hnc, hcm, hcs, _⟩
  · cases e
  · simp only [Value.slice.injEq, Option.some.injEq, Addr.mk.injEq, and_true, true_and] at e
    obtain ⟨rfl, rfl⟩ := e
    exact ⟨fun j hj => ⟨by rw [h.cellAt j (by omega)]; exact ints_get l j hj, h.frozenAt j⟩, ⟨cur, hgg, by omega⟩, block_lt hgg, hnc, hcm, hg⟩
def SortU (l : List Int) (v : Value) (base : Nat) (w : World) (e : Ending) (w' : World) : Prop :=
  e = .returned (.tuple #[]) ∧ w'.ownsRow base 3 1 v l.length (ints (l.mergeSort fun x y => decide (x ≤ y))) ∧ Ch w w' (fun k => v.ownBlock = some k)
theorem sortU (l : List Int) (v : Value) (base : Nat) (w : World) (h : w.ownsRow base 3 1 v l.length (ints l)) (hn : l.length ≤ 4000000) : Calls Tryz.prog 60 #[v] w (SortU l v base w) := by
  by_cases h0 : l.length = 0
  · obtain rfl : l = [] := List.eq_nil_of_length_eq_zero h0
    obtain ⟨A, cap, rfl⟩ := own_form h
    refine (Tryz.slices_Sort_int_none A cap w).mono ?_
    rintro e w' ⟨rfl, rfl⟩
    exact ⟨rfl, by simpa using h, Ch.refl _ _⟩
  · obtain ⟨g, cap, rfl, _⟩ := own_at h (by omega)
    obtain ⟨hr, hb, hg, hnc, hcm, hbs⟩ := own_rowG h rfl
    refine (sortI_any l g cap w hr hg hn).mono ?_
    rintro e w' ⟨rfl, hr2, hbut⟩
    refine ⟨rfl, ?_, hbut.ch.weak fun k _ e => by rw [e]; rfl⟩
    have := own_of hr2 (hbut.2.2.2.2.2 _ _ hb) (by rw [List.length_mergeSort]; exact hnc) hcm hbs
    rw [List.length_mergeSort] at this
    exact this
/-- What is sorted is what is picked. -/
theorem sort_picked (n : Nat) (got : List Nat) (hn : got.Nodup) (hl : ∀ x ∈ got, x < n) : (ofN got).mergeSort (fun x y => decide (x ≤ y)) = ofN (picked got n) := by
  have hp := List.mergeSort_perm (ofN got) (fun x y => decide (x ≤ y))
  have hs := sorted_le (ofN got)
  have hpk : (ofN (picked got n)).Perm (ofN got) := by
    have hnd : (picked got n).Nodup := by unfold picked; exact (List.Pairwise.filter _ List.pairwise_lt_range).imp fun h => Nat.ne_of_lt h
    refine List.Perm.map _ ((List.perm_ext_iff_of_nodup hnd hn).2 fun x => ?_)
    unfold picked
    rw [List.mem_filter, List.mem_range, decide_eq_true_iff]
    exact ⟨fun h => h.2, fun h => ⟨hl x h, h⟩⟩
  have hps : (ofN (picked got n)).Pairwise (· ≤ ·) := by
    unfold ofN picked
    rw [List.pairwise_map]
    exact (List.Pairwise.filter _ List.pairwise_lt_range).imp fun h => by omega
  exact List.Perm.eq_of_pairwise (fun a b _ _ h1 h2 => Int.le_antisymm h1 h2) hs hps (hp.trans hpk.symm)
end Go.Proofs.YtbniilajffjfcaaGreatDoor
