/- drv's reference: edges. -/
import Derived.Test.YtbniilajffjfcaaGreatDoorDmD2
set_option linter.unusedVariables false
set_option linter.unusedSimpArgs false
namespace Go.Proofs.YtbniilajffjfcaaGreatDoor
open Go.RowKit Go.BigFrame
open Drv (posO edges edgeAt dupB)

/-- A graph that is few enough. -/
structure Few (names : List ByteArray) (needs : List (List ByteArray)) : Prop where
  n : names.length ≤ 100000
  m : needs.length ≤ 100000
  row : ∀ r ∈ needs, r.length ≤ 100000 ∧ Small r
  small : Small names
def EdgesPost (names : List ByteArray) (needs : List (List ByteArray)) (i : Nat) (w : World) (e : Ending) (w' : World) : Prop :=
  ∃ u, e = .returned u ∧ w'.ownsRow w.heap.size 3 1 u (edgeAt names needs i).length (ints (ofN (edgeAt names needs i))) ∧ Below w.heap.size w w'
theorem getD_nil {needs : List (List ByteArray)} {i : Nat} (h : ¬ i < needs.length) : needs.getD i [] = [] := by
  simp [List.getD, List.getElem?_eq_none (by omega : needs.length ≤ i)]
theorem getD_row {needs : List (List ByteArray)} {i : Nat} (h : i < needs.length) : needs.getD i [] ∈ needs := by
  simp [List.getD, h]
set_option maxRecDepth 100000 in
set_option maxHeartbeats 2000000 in
theorem edges_any (a b : Value) (names : List ByteArray) (needs : List (List ByteArray)) (i : Nat) (w : World) (ha : TRow w AllB a names) (hb : TextsAt w b needs) (hf : Few names needs) (hi : i ≤ 1000000) :
    Calls Tryz.prog 57 #[a, b, .int .i64 (i : Int)] w (EdgesPost names needs i w) := by
  have HP := Lib.hid (fun (u : Value) (w' : World) (h1 : w'.ownsRow w.heap.size 3 1 u (edgeAt names needs i).length (ints (ofN (edgeAt names needs i)))) (h2 : Below w.heap.size w w') => show EdgesPost names needs i w (.returned u) w' from ⟨u, rfl, h1, h2⟩)
  generalize EdgesPost names needs i w = post at *
  have HA := Lib.hid ha
  obtain ⟨A, ca, rfl, hla, hma⟩ := RdS.form ha
  obtain ⟨B, cb, rfl, hlb, hmb⟩ := OutS.form hb
  unfold maxLen at hma hmb
  by_cases hin : i < needs.length
  · obtain ⟨adb, u, rfl, hcu, hu⟩ := OutS.get hb i hin
    rw [show needs.getD i default = needs.getD i [] from rfl] at hu
    obtain ⟨hrl, hrs⟩ := hf.row _ (getD_row hin)
    have hE : edgeAt names needs i = edges names (needs.getD i []) := rfl
    rw [hE] at HP
    generalize needs.getD i [] = row at *
    clear hE
    have HU := Lib.hid hu
    obtain ⟨R, cr, rfl, hlr, hmr⟩ := RdS.form hu
    unfold maxLen at hmr
    obtain ⟨i0, hi', hz0, hz1, hz2⟩ := info_parts infoInt
    have HI := Lib.hid hi'
    have HZ0 := Lib.hid hz0
    have HZ1 := Lib.hid hz1
    have HZ2 := Lib.hid hz2
    have hii : (i : Int) < (needs.length : Int) := by omega
    have HCU := Lib.hid hcu
    have hblt := World.block_lt_of_cell? w _ hcu
    clear hi' hz0 hz1 hz2 ha hb hu hf hcu
    go_enter Tryz.func57, Tryz.ntmps57
    go_wp2
    go_loopw [7, 8] (fun pv kv wr => ∃ k : Nat, k ≤ row.length ∧ kv = .int .i64 k ∧ Hid (wr.ownsRow w.heap.size 3 1 pv (edges names (row.take k)).length (ints (ofN (edges names (row.take k))))) ∧ Hid (Below w.heap.size w wr)) (fun _ kv _ => row.length - (intOf kv).toNat)
    case atStart => exact ⟨0, by omega, rfl, Lib.hid (World.ownsRow_nil _ _ _ _), Lib.hid (Below.refl _ _)⟩
    case round =>
      obtain ⟨k, hk, rfl, HO, HB⟩ := hrel
      have hcu := (HB.out.cell hblt).trans HCU.out
      by_cases hlt : k < row.length
      · obtain ⟨ad, rfl, hcx⟩ := TRow.get (RdS.below HU.out HB.out) k hlt
        have hsz := hrs.at hlt
        have HT := Lib.hid (Drv.take_snoc row k _ (getD_at hlt))
        have HEL := Lib.hid (Nat.le_trans (Drv.edges_len names (row.take k)) (List.length_take_le _ _))
        obtain ⟨s, hs⟩ : ∃ s, s = row.getD k ⟨#[]⟩ := ⟨_, rfl⟩
        rw [← hs] at hcx hsz HT
        clear hs
        have HPL := Lib.hid (place_any _ names s wr (RdS.below HA.out HB.out))
        have hk' : (k : Int) < (row.length : Int) := by omega
        cases hpos : posO names s with
        | none =>
          have hpl : placeI names s = -1 := by unfold placeI; rw [hpos]
          rw [hpl] at HPL
          have HE := Lib.hid (Drv.edges_snoc names (row.take k) s)
          rw [hpos, ← HT.out] at HE
          have HO2 : Hid (wr.ownsRow w.heap.size 3 1 u7 (edges names (row.take (k + 1))).length (ints (ofN (edges names (row.take (k + 1)))))) := Lib.hid (by rw [HE.out]; exact HO.out)
          clear HO HT HE hpos hpl
          go_wp2_with fail
          refine HPL.out.mono ?_
          rintro e w' ⟨rfl, hw⟩
          obtain rfl := hw.symm
          go_wp2
          go_roundw
          case rel => exact ⟨k + 1, by omega, by go_num, HO2, HB⟩
          case measure => simp [intOf]; omega
        | some p =>
          have hpl : placeI names s = (p : Int) := by unfold placeI; rw [hpos]
          rw [hpl] at HPL
          have HE := Lib.hid (Drv.edges_snoc names (row.take k) s)
          rw [hpos, ← HT.out] at HE
          have hil := HEL.out
          have hbs := HB.out.size
          have hp0 : (0 : Int) ≤ (p : Int) := by omega
          clear HT hpos HEL hpl
          go_wp2_with fail
          refine HPL.out.mono ?_
          rintro e w' ⟨rfl, hw⟩
          obtain rfl := hw.symm
          go_wp2_with (at_builtin; refine wpList_append_own _ rfl _ _ 51 rfl w.heap.size 3 i0 (.int .i64 0) 1 8 Tryz.underlying51 HI.out HZ0.out HZ1.out HZ2.out rfl (by decide) _ _ _ rfl (HO.out.alloc _) ⟨wr.heap.size, 0, none⟩ 1 1 [.int .i64 (p : Int)] rfl rfl ?c1 ?c2 ?c3 ?c4 ?c5 ?_)
          case c1 => exact cell_one_at _ _ _ _ rfl
          case c2 => intro u hu; simp at hu; subst hu; rfl
          case c3 => unfold maxLen; omega
          case c4 => omega
          case c5 => first | omega | (simp; omega)
          intro v' w1 hown1 hgrow1 _
          have HB1 := Lib.hid ((HB.out.alloc hbs (.cells #[.int .i64 (p : Int)] 3)).grown hgrow1 (by simp; omega) (fun g e => (HO.out.lt g e).1))
          have HO2 : Hid (w1.ownsRow w.heap.size 3 1 v' (edges names (row.take (k + 1))).length (ints (ofN (edges names (row.take (k + 1)))))) := Lib.hid (by rw [HE.out, ofN_snoc, ints_snoc2, List.length_append]; exact hown1)
          clear HO HB hgrow1 hown1 hcx HE hil hbs hcu
          go_wp2
          go_roundw
          case rel => exact ⟨k + 1, by omega, by go_num, HO2, HB1⟩
          case measure => simp [intOf]; omega
      · have hk' : ¬ (k : Int) < (row.length : Int) := by omega
        have h1 := HO.out
        rw [List.take_of_length_le (by omega)] at h1
        have HF := Lib.hid h1
        clear h1 HO
        obtain ⟨Ap, cp, rfl⟩ := own_form HF.out
        go_wp2
        exact HP.out _ _ HF.out HB.out
  · have hii : ¬ (i : Int) < (needs.length : Int) := by omega
    have HF := Lib.hid (show w.ownsRow w.heap.size 3 1 (.slice none 0 0) (edgeAt names needs i).length (ints (ofN (edgeAt names needs i))) by
      unfold edgeAt; rw [getD_nil hin]; exact World.ownsRow_nil _ _ _ _)
    go_enter Tryz.func57, Tryz.ntmps57
    go_wp2
    exact HP.out _ _ HF.out (Below.refl _ _)
end Go.Proofs.YtbniilajffjfcaaGreatDoor

/- drv's reference: Sort. -/
namespace Go.Proofs.YtbniilajffjfcaaGreatDoor
open Go.RowKit Go.BigFrame
open Drv (posO edges edgeAt dupB stepS sortS)

def RowPost (l : List Nat) (c : Int) (w : World) (e : Ending) (w' : World) : Prop :=
  ∃ u, e = .returned (.tuple #[u, .int .i64 c]) ∧ w'.ownsRow w.heap.size 3 1 u l.length (ints (ofN l)) ∧ Below w.heap.size w w'
def sortL (names : List ByteArray) (needs : List (List ByteArray)) : List Nat := if dupB names then [] else (sortS names.length (edgeAt names needs) names.length []).getD []
def sortC (names : List ByteArray) (needs : List (List ByteArray)) : Int := if dupB names then 151 else if (sortS names.length (edgeAt names needs) names.length []).isSome then 0 else 240
theorem irow_own {w : World} {base : Nat} {v : Value} {l : List Nat} (h : w.ownsRow base 3 1 v l.length (ints (ofN l))) : IRow w (fun b => base ≤ b) v (ofN l) := by
  unfold IRow
  rw [ofN_len]
  exact RdS.own h
theorem contains_ofN (l : List Nat) (i : Nat) : (ofN l).contains (i : Int) = decide (i ∈ l) := by
  rw [Bool.eq_iff_iff, List.contains_iff_mem, decide_eq_true_iff]
  unfold ofN
  rw [List.mem_map]
  constructor
  · rintro ⟨a, h, e⟩
    have : a = i := by omega
    exact this ▸ h
  · exact fun h => ⟨i, h, rfl⟩
theorem allIn_ofN (l m : List Nat) : allIn (ofN l) (ofN m) = m.all fun e => decide (e ∈ l) := by
  unfold allIn ofN
  rw [List.all_map]
  congr 1
  funext e
  exact contains_ofN l e
def pB (E : Nat → List Nat) (out : List Nat) (i : Nat) : Bool := decide (i ∉ out) && (E i).all fun e => decide (e ∈ out)
theorem stepS_p (n : Nat) (E : Nat → List Nat) (out : List Nat) : stepS n E out = (List.range n).find? (pB E out) := rfl
theorem step_found {n : Nat} {E : Nat → List Nat} {out : List Nat} {i : Nat} (hi : i < n) (hp : pB E out i = true) (hj : ∀ j, j < i → pB E out j = false) : stepS n E out = some i := Drv.find_range hi hp hj
theorem step_nought {n : Nat} {E : Nat → List Nat} {out : List Nat} (hj : ∀ j, j < n → pB E out j = false) : stepS n E out = none := by
  rw [stepS_p, List.find?_eq_none]
  intro j hm h
  rw [hj j (List.mem_range.1 hm)] at h
  cases h
theorem sortS_step {n : Nat} {E : Nat → List Nat} {out : List Nat} {i : Nat} (hl : out.length < n) (h : stepS n E out = some i) : sortS n E (n - out.length) out = sortS n E (n - (out ++ [i]).length) (out ++ [i]) := by
  obtain ⟨f, hf⟩ : ∃ f, n - out.length = f + 1 := ⟨n - out.length - 1, by omega⟩
  rw [hf, sortS, if_pos hl, h]
  have : n - (out ++ [i]).length = f := by simp; omega
  rw [this]
theorem sortS_none {n : Nat} {E : Nat → List Nat} {out : List Nat} (hl : out.length < n) (h : stepS n E out = none) : sortS n E (n - out.length) out = none := by
  obtain ⟨f, hf⟩ : ∃ f, n - out.length = f + 1 := ⟨n - out.length - 1, by omega⟩
  rw [hf, sortS, if_pos hl, h]
theorem sortS_end {n : Nat} {E : Nat → List Nat} {out : List Nat} (hl : ¬ out.length < n) : sortS n E (n - out.length) out = some out := by
  have : n - out.length = 0 := by omega
  rw [this, sortS, if_neg hl]
theorem RowPost.of {l : List Nat} {c : Int} {w w' : World} {u : Value} {l' : List Nat} {c' : Int} (hl : l' = l) (hc : c' = c) (h1 : w'.ownsRow w.heap.size 3 1 u l'.length (ints (ofN l'))) (h2 : Below w.heap.size w w') : RowPost l c w (.returned (.tuple #[u, .int .i64 c'])) w' := by
  subst hl; subst hc; exact ⟨u, rfl, h1, h2⟩
/-- The next one that is looked for. -/
def InR (n : Nat) (E : Nat → List Nat) (out : List Nat) (wo : World) (nv iv : Value) (wr : World) : Prop :=
  ∃ i : Nat, i ≤ n ∧ iv = .int .i64 (i : Int) ∧ Below wo.heap.size wo wr ∧ ((nv = .int .i64 (-1) ∧ ∀ j, j < i → pB E out j = false) ∨ (∃ p : Nat, p < n ∧ nv = .int .i64 (p : Int) ∧ stepS n E out = some p))
theorem InR.start (n : Nat) (E : Nat → List Nat) (out : List Nat) (wo : World) : InR n E out wo (.int .i64 (-1)) (.int .i64 0) wo := ⟨0, Nat.zero_le _, rfl, Below.refl _ _, .inl ⟨rfl, fun j h => absurd h (Nat.not_lt_zero j)⟩⟩
set_option maxRecDepth 100000 in
set_option maxHeartbeats 4000000 in
theorem refSort_any (a b : Value) (names : List ByteArray) (needs : List (List ByteArray)) (w : World) (ha : TRow w AllB a names) (hb : TextsAt w b needs) (hf : Few names needs) :
    Calls Tryz.prog 27 #[a, b] w (RowPost (sortL names needs) (sortC names needs) w) := by
  have HP := Lib.hid (fun (u : Value) (w' : World) (l : List Nat) (c : Int) (hl : l = sortL names needs) (hc : c = sortC names needs) (h1 : w'.ownsRow w.heap.size 3 1 u l.length (ints (ofN l))) (h2 : Below w.heap.size w w') => RowPost.of hl hc h1 h2)
  generalize RowPost (sortL names needs) (sortC names needs) w = post at *
  have HTW := Lib.hid (twice_any a names w ha)
  have HA := Lib.hid (fun (w2 : World) (h : Below w.heap.size w w2) => RdS.below ha h)
  have HB := Lib.hid (fun (w2 : World) (h : Below w.heap.size w w2) => TextsAt.below hb h)
  have HED := Lib.hid (fun (i : Nat) (hi : i ≤ 1000000) (w2 : World) (h : Below w.heap.size w w2) => show Calls Tryz.prog 57 #[a, b, .int .i64 (i : Int)] w2 (fun e w' => ∃ u, e = .returned u ∧ w'.ownsRow w2.heap.size 3 1 u (edgeAt names needs i).length (ints (ofN (edgeAt names needs i))) ∧ Below w2.heap.size w2 w') from edges_any a b names needs i w2 (RdS.below ha h) (TextsAt.below hb h) hf hi)
  have hn := hf.n
  obtain ⟨A, ca, rfl, hla, hma⟩ := RdS.form ha
  obtain ⟨B, cb, rfl, hlb, hmb⟩ := OutS.form hb
  unfold maxLen at hma hmb
  have HF := Lib.hid hf
  clear ha hb hf
  cases hd : dupB names
  · have HL := Lib.hid (show sortL names needs = (sortS names.length (edgeAt names needs) names.length []).getD [] by unfold sortL; rw [hd]; rfl)
    have HC := Lib.hid (show sortC names needs = if (sortS names.length (edgeAt names needs) names.length []).isSome then 0 else 240 by unfold sortC; rw [hd]; rfl)
    rw [hd] at HTW
    have HEL := Lib.hid (fun (i : Nat) => show (edgeAt names needs i).length ≤ 100000 from by
      unfold edgeAt
      refine Nat.le_trans (Drv.edges_len _ _) ?_
      by_cases h : i < needs.length
      · exact (HF.out.row _ (getD_row h)).1
      · rw [getD_nil h]; exact Nat.zero_le _)
    generalize edgeAt names needs = E at *
    obtain ⟨i0, hi', hz0, hz1, hz2⟩ := info_parts infoInt
    have HI := Lib.hid hi'
    have HZ0 := Lib.hid hz0
    have HZ1 := Lib.hid hz1
    have HZ2 := Lib.hid hz2
    clear hi' hz0 hz1 hz2 hd
    go_enter Tryz.func27, Tryz.ntmps27
    go_wp2_with fail
    refine HTW.out.mono ?_
    rintro e w' ⟨rfl, hw⟩
    obtain rfl := hw.symm
    go_wp2
    go_loopw [6] (fun ov wr => ∃ out : List Nat, out.length ≤ names.length ∧ Hid (sortS names.length E names.length [] = sortS names.length E (names.length - out.length) out) ∧ Hid (wr.ownsRow w.heap.size 3 1 ov out.length (ints (ofN out))) ∧ Hid (Below w.heap.size w wr) ∧ (∃ A' c', ov = .slice A' out.length c')) (fun ov _ => names.length - (match ov with | .slice _ n _ => n | _ => 0))
    case atStart => exact ⟨[], by simp, Lib.hid rfl, Lib.hid (World.ownsRow_nil _ _ _ _), Lib.hid (Below.refl _ _), none, 0, rfl⟩
    case round =>
      obtain ⟨out, hol, HS, HO, HBW, Ao, co, rfl⟩ := hrel
      by_cases hlt : out.length < names.length
      · have hlti : (out.length : Int) < (names.length : Int) := by omega
        have HLT := Lib.hid hlt
        obtain ⟨wo, hwo⟩ : ∃ wo, wo = wr := ⟨_, rfl⟩
        subst hwo
        go_wp2
        go_loopw [7, 8] (fun nv iv w2 => InR names.length E out wo nv iv w2) (fun _ iv _ => names.length - (intOf iv).toNat)
        case atStart => exact InR.start _ _ _ _
        case round =>
          obtain ⟨i, hin, rfl, HBI', hcase⟩ := hrel
          have HBI := Lib.hid HBI'
          have HBX := Lib.hid (below_step HBW.out HBI' HBW.out.size)
          have HOX := Lib.hid (own_below HO.out HBI' (Nat.le_refl _))
          clear HBI'
          rcases hcase with ⟨rfl, hno⟩ | ⟨p, hpn, rfl, hst⟩
          · have HNO := Lib.hid hno
            clear hno
            by_cases hi : i < names.length
            · have hii : (i : Int) < (names.length : Int) := by omega
              have HHA := Lib.hid (has_any _ (ofN out) (i : Int) _ wr (irow_own HOX.out))
              rw [contains_ofN] at HHA
              have HMORE := Lib.hid (fun (h : pB E out i = false) => show ∀ j, j < i + 1 → pB E out j = false from fun j hj => by
                rcases Nat.lt_or_ge j i with h2 | h2
                · exact HNO.out j h2
                · obtain rfl : j = i := by omega
                  exact h)
              have HSTP := Lib.hid (fun (h : pB E out i = true) => step_found hi h HNO.out)
              cases hm : decide (i ∈ out)
              · rw [hm] at HHA
                have HPB := Lib.hid (show pB E out i = (E i).all fun e => decide (e ∈ out) by unfold pB; rw [decide_eq_true (show i ∉ out from of_decide_eq_false hm)]; rfl)
                have HEI := Lib.hid (HED.out i (by omega) wr HBX.out)
                clear hm
                go_wp2_with fail
                refine HHA.out.mono ?_
                rintro e w' ⟨rfl, hw⟩
                obtain rfl := hw.symm
                go_wp2_with fail
                refine HEI.out.mono ?_
                rintro e w3 ⟨u3, rfl, ho3, hb3⟩
                have HB3 := Lib.hid hb3
                have HAL := Lib.hid (all_any _ _ (ofN out) (ofN (E i)) _ _ w3 (irow_own (own_below HOX.out hb3 (Nat.le_refl _))) (irow_own ho3))
                rw [allIn_ofN] at HAL
                obtain ⟨A3, c3, rfl⟩ := own_form ho3
                clear ho3 hb3
                cases hal : (E i).all fun e => decide (e ∈ out)
                · rw [hal] at HAL
                  have HM2 := Lib.hid (HMORE.out (by rw [HPB.out, hal]))
                  clear hal
                  go_wp2_with fail
                  refine HAL.out.mono ?_
                  rintro e w' ⟨rfl, hw⟩
                  obtain rfl := hw.symm
                  go_wp2
                  go_roundw
                  case rel => exact ⟨i + 1, by omega, by go_num, below_step HBI.out HB3.out HBI.out.size, .inl ⟨rfl, HM2.out⟩⟩
                  case measure => simp [intOf]; omega
                · rw [hal] at HAL
                  have HM2 := Lib.hid (HSTP.out (by rw [HPB.out, hal]))
                  clear hal
                  go_wp2_with fail
                  refine HAL.out.mono ?_
                  rintro e w' ⟨rfl, hw⟩
                  obtain rfl := hw.symm
                  go_wp2
                  go_roundw
                  case rel => exact ⟨i + 1, by omega, by go_num, below_step HBI.out HB3.out HBI.out.size, .inr ⟨i, hi, rfl, HM2.out⟩⟩
                  case measure => simp [intOf]; omega
              · rw [hm] at HHA
                have HM2 := Lib.hid (HMORE.out (by unfold pB; rw [decide_eq_false (fun h => h (of_decide_eq_true hm))]; rfl))
                clear hm
                go_wp2_with fail
                refine HHA.out.mono ?_
                rintro e w' ⟨rfl, hw⟩
                obtain rfl := hw.symm
                go_wp2
                go_roundw
                case rel => exact ⟨i + 1, by omega, by go_num, HBI.out, .inl ⟨rfl, HM2.out⟩⟩
                case measure => simp [intOf]; omega
            · have hii : ¬ (i : Int) < (names.length : Int) := by omega
              have HNN := Lib.hid (HS.out.trans (sortS_none hlt (step_nought fun j hj => HNO.out j (by omega))))
              have HF2 := Lib.hid (show ([] : List Nat) = sortL names needs by rw [HL.out, HNN.out]; rfl)
              have HF3 := Lib.hid (show (240 : Int) = sortC names needs by rw [HC.out, HNN.out]; rfl)
              go_wp2
              exact HP.out _ _ _ _ HF2.out HF3.out (World.ownsRow_nil _ _ _ _) HBX.out
          · have HST := Lib.hid (HS.out.trans (sortS_step hlt hst))
            have hp0 : ¬ (p : Int) < 0 := by omega
            have hbx := HBX.out.size
            clear hst
            by_cases hi : i < names.length
            all_goals
              go_wp2_with (at_builtin; refine wpList_append_own _ rfl _ _ 51 rfl w.heap.size 3 i0 (.int .i64 0) 1 8 Tryz.underlying51 HI.out HZ0.out HZ1.out HZ2.out rfl (by decide) _ _ _ rfl (HOX.out.alloc _) ⟨wr.heap.size, 0, none⟩ 1 1 [.int .i64 (p : Int)] rfl rfl ?_ ?_ ?_ ?_ ?_ ?_)
              · rfl
              · unfold maxLen; omega
              · omega
              · omega
              · intro v' w3 hown3 hgrow3 _
                have HB3 := Lib.hid ((HBX.out.alloc hbx (.cells #[.int .i64 (p : Int)] 3)).grown hgrow3 (by simp; omega) (fun g e => (HOX.out.lt g e).1))
                have HO3 : Hid (w3.ownsRow w.heap.size 3 1 v' (out ++ [p]).length (ints (ofN (out ++ [p])))) := Lib.hid (by rw [ofN_snoc, ints_snoc2, List.length_append]; exact hown3)
                obtain ⟨A3, c3, rfl⟩ := own_form HO3.out
                have hol3 : (out ++ [p]).length ≤ names.length := by simp; omega
                have HLN := Lib.hid (show (out ++ [p]).length = out.length + 1 by simp)
                clear hown3 hgrow3
                go_wp2
                go_roundw
                case rel => exact ⟨out ++ [p], hol3, HST, HO3, HB3, A3, c3, rfl⟩
                case measure => (have := HLT.out; have := HLN.out; first | omega | (simp; omega) | (trace_state; omega))
      · have hlti : ¬ (out.length : Int) < (names.length : Int) := by omega
        have HE := Lib.hid (HS.out.trans (sortS_end hlt))
        have HF2 := Lib.hid (show out = sortL names needs by rw [HL.out, HE.out]; rfl)
        have HF3 := Lib.hid (show (0 : Int) = sortC names needs by rw [HC.out, HE.out]; rfl)
        go_wp2
        exact HP.out _ _ _ _ HF2.out HF3.out HO.out HBW.out
  · have HL := Lib.hid (show ([] : List Nat) = sortL names needs by unfold sortL; rw [hd]; rfl)
    have HC := Lib.hid (show (151 : Int) = sortC names needs by unfold sortC; rw [hd]; rfl)
    rw [hd] at HTW
    clear hd
    go_enter Tryz.func27, Tryz.ntmps27
    go_wp2_with fail
    refine HTW.out.mono ?_
    rintro e w' ⟨rfl, hw⟩
    obtain rfl := hw.symm
    go_wp2
    exact HP.out _ _ _ _ HL.out HC.out (World.ownsRow_nil _ _ _ _) (Below.refl _ _)
end Go.Proofs.YtbniilajffjfcaaGreatDoor
