/- drv: which derivations are right: the package's answer and the reference's. -/
import Derived.Test.YtbniilajffjfcaaGreatDoorDmD2
import Derived.Test.YtbniilajffjfcaaGreatDoorDmN4
import Derived.WalkLawsBesides
set_option linter.unusedVariables false
set_option linter.unusedSimpArgs false
namespace Go.Proofs.YtbniilajffjfcaaGreatDoor
open Go.RowKit Go.BigFrame
open Drv (posO edges edgeAt dupB)

def leS (x y : ByteArray) : Bool := Op.bytesLess x.toList y.toList || (x.toList == y.toList)
def inOk (ins : List ByteArray) (k : Nat) : Bool := Nam.okP (ins.getD k ⟨#[]⟩) && (decide (k = 0) || !leS (ins.getD k ⟨#[]⟩) (ins.getD (k - 1) ⟨#[]⟩))
def insOk (ins : List ByteArray) : Bool := (List.range ins.length).all (inOk ins)
def rightD (nm : ByteArray) (ins : List ByteArray) (rc : ByteArray) : Bool := Nam.rightB nm && decide (nm.size ≤ 60) && decide (ins.length ≤ 64) && decide (rc.size ≤ 262144) && insOk ins
def lastS (ins : List ByteArray) (k : Nat) : ByteArray := if k = 0 then ⟨#[]⟩ else ins.getD (k - 1) ⟨#[]⟩
theorem okP_size {s : ByteArray} (h : Nam.okP s = true) : 33 ≤ s.size := by
  unfold Nam.okP at h
  simp at h
  exact h.1.1.1
theorem leS_nil {s : ByteArray} (h : 0 < s.size) : leS s ⟨#[]⟩ = false := by
  unfold leS
  rw [Lib.toList_data, Lib.toList_data]
  have hl : s.data.toList.length = s.size := by simp
  cases hc : s.data.toList with
  | nil => rw [hc] at hl; simp at hl; omega
  | cons a l => rfl
theorem insOk_no {ins : List ByteArray} {k : Nat} (hk : k < ins.length) (h : inOk ins k = false) : insOk ins = false := by
  unfold insOk
  rw [List.all_eq_false]
  exact ⟨k, List.mem_range.2 hk, by rw [h]; simp⟩
theorem insOk_yes {ins : List ByteArray} (h : ∀ k, k < ins.length → inOk ins k = true) : insOk ins = true := by
  unfold insOk
  rw [List.all_eq_true]
  exact fun k hk => h k (List.mem_range.1 hk)
theorem inOk_last {ins : List ByteArray} {k : Nat} (h : Nam.okP (ins.getD k ⟨#[]⟩) = true) : inOk ins k = !leS (ins.getD k ⟨#[]⟩) (lastS ins k) := by
  unfold inOk lastS
  rw [h]
  by_cases h0 : k = 0
  · subst h0
    have := okP_size h
    rw [if_pos rfl, leS_nil (by omega)]; rfl
  · rw [if_neg h0, decide_eq_false h0]; rfl
theorem inOk_bad {ins : List ByteArray} {k : Nat} (h : Nam.okP (ins.getD k ⟨#[]⟩) = false) : inOk ins k = false := by
  unfold inOk; rw [h]; rfl
def YesNo (b : Bool) (w : World) (e : Ending) (w' : World) : Prop := e = .returned (.bool b) ∧ Below w.heap.size w w'
theorem three_cells {w : World} {g : Nat} {T : TypeId} {x y z : Value} (h : w.heap[g]? = some (.cells #[x, y, z] T (0, 0))) : w.cell? ⟨g, 0, none⟩ = some x ∧ w.cell? ⟨g, 1, none⟩ = some y ∧ w.cell? ⟨g, 2, none⟩ = some z :=
  ⟨by rw [cell_of_row _ _ _ _ _ _ h]; rfl, by rw [cell_of_row _ _ _ _ _ _ h]; rfl, by rw [cell_of_row _ _ _ _ _ _ h]; rfl⟩
set_option maxRecDepth 100000 in
set_option maxHeartbeats 1000000 in
theorem right_early (nm : ByteArray) (v : Value) (ins : List ByteArray) (rc : ByteArray) (w : World) (hv : TRow w AllB v ins) (hn : nm.size ≤ maxLen) (hr : rc.size ≤ maxLen)
    (h : ¬ (Nam.rightB nm = true ∧ nm.size ≤ 60) ∨ ((Nam.rightB nm = true ∧ nm.size ≤ 60) ∧ ¬ (ins.length ≤ 64 ∧ rc.size ≤ 262144))) :
    Calls Tryz.prog 9 #[.agg #[.string nm, v, .string rc]] w (YesNo false w) := by
  obtain ⟨A, ca, rfl, hla, hma⟩ := RdS.form hv
  have HP := Lib.hid (fun (w' : World) (h1 : Below w.heap.size w w') => show YesNo false w (.returned (.bool false)) w' from ⟨rfl, h1⟩)
  generalize YesNo false w = post at *
  unfold maxLen at hma hn hr
  have HNR := Lib.hid (fun w' => Nam.right_any nm w' (by unfold maxLen; exact hn))
  generalize Nam.rightB nm = b at *
  clear hv
  go_enter Tryz.func9, Tryz.ntmps9
  go_upto_region 1 with (fail)
  obtain ⟨W0, hW0, hg0, hb0, hz0, hbb⟩ := row_at w w (.cells #[.string nm, .slice A ins.length ca, .string rc] 28) (Below.refl _ _)
  rw [← hW0]
  obtain ⟨hc0, hc1, hc2⟩ := three_cells hg0
  have HB := Lib.hid hbb
  clear hW0 hg0 hb0 hz0 hbb
  rcases h with h | ⟨⟨rfl, h1⟩, h2⟩
  · cases b
    · clear h
      go_wp2_with fail
      refine (HNR.out _).mono ?_
      rintro e w' ⟨rfl, hw⟩
      obtain rfl := hw
      go_wp2
      exact HP.out _ HB.out
    · have h1 : (60 : Int) < (nm.size : Int) := by
        have : ¬ nm.size ≤ 60 := fun e => h ⟨rfl, e⟩
        omega
      clear h
      go_wp2_with fail
      refine (HNR.out _).mono ?_
      rintro e w' ⟨rfl, hw⟩
      obtain rfl := hw
      go_wp2
      exact HP.out _ HB.out
  · have h3 : ¬ (60 : Int) < (nm.size : Int) := by omega
    by_cases h4 : ins.length ≤ 64
    · have h5 : (262144 : Int) < (rc.size : Int) := by omega
      have h6 : ¬ (64 : Int) < (ins.length : Int) := by omega
      clear h2
      go_wp2_with fail
      refine (HNR.out _).mono ?_
      rintro e w' ⟨rfl, hw⟩
      obtain rfl := hw
      go_wp2
      exact HP.out _ HB.out
    · have h6 : (64 : Int) < (ins.length : Int) := by omega
      clear h2
      go_wp2_with fail
      refine (HNR.out _).mono ?_
      rintro e w' ⟨rfl, hw⟩
      obtain rfl := hw
      go_wp2
      exact HP.out _ HB.out
set_option maxRecDepth 100000 in
set_option maxHeartbeats 2000000 in
theorem right_late (nm : ByteArray) (v : Value) (ins : List ByteArray) (rc : ByteArray) (w : World) (hv : TRow w AllB v ins) (hs : Small ins) (hn : nm.size ≤ maxLen) (hr : rc.size ≤ maxLen)
    (hb : Nam.rightB nm = true) (h1 : nm.size ≤ 60) (h2 : ins.length ≤ 64) (h3 : rc.size ≤ 262144) :
    Calls Tryz.prog 9 #[.agg #[.string nm, v, .string rc]] w (YesNo (insOk ins) w) := by
  have HP := Lib.hid (fun (b : Bool) (w' : World) (hb : insOk ins = b) (h1 : Below w.heap.size w w') => show YesNo (insOk ins) w (.returned (.bool b)) w' from ⟨by rw [hb], h1⟩)
  generalize YesNo (insOk ins) w = post at *
  have HNR := Lib.hid (fun w' => hb ▸ Nam.right_any nm w' hn)
  obtain ⟨A, ca, rfl, hla, hma⟩ := RdS.form hv
  unfold maxLen at hma hn hr
  clear hb
  go_enter Tryz.func9, Tryz.ntmps9
  go_upto_region 1 with (fail)
  obtain ⟨W0, hW0, hg0, hb0, hz0, hbb⟩ := row_at w w (.cells #[.string nm, .slice A ins.length ca, .string rc] 28) (Below.refl _ _)
  rw [← hW0]
  obtain ⟨hc0, hc1, hc2⟩ := three_cells hg0
  have HB0 := Lib.hid hbb
  have HV := Lib.hid (show TRow W0 AllB (.slice A ins.length ca) ins from RdS.below hv hb0)
  have h6 : ¬ (60 : Int) < (nm.size : Int) := by omega
  have h7 : ¬ (64 : Int) < (ins.length : Int) := by omega
  have h8 : ¬ (262144 : Int) < (rc.size : Int) := by omega
  clear hW0 hg0 hb0 hz0 hbb hv
  go_wp2_with fail
  refine (HNR.out _).mono ?_
  rintro e w' ⟨rfl, hw⟩
  obtain rfl := hw
  go_wp2
  go_loopw [3, 32] (fun lv iv wr => ∃ k : Nat, k ≤ ins.length ∧ iv = .int .i64 k ∧ lv = .string (lastS ins k) ∧ Hid (∀ j, j < k → inOk ins j = true) ∧ Hid (Below W0.heap.size W0 wr)) (fun _ iv _ => ins.length - (intOf iv).toNat)
  case atStart => exact ⟨0, by omega, rfl, rfl, Lib.hid fun j h => absurd h (Nat.not_lt_zero j), Lib.hid (Below.refl _ _)⟩
  case round =>
    clear hc0 hc1 hc2
    obtain ⟨k, hk, rfl, rfl, HS, HB⟩ := hrel
    by_cases hlt : k < ins.length
    · obtain ⟨ad, rfl, hcx⟩ := TRow.get (RdS.below HV.out HB.out) k hlt
      have hsz := hs.at hlt
      have hk' : (k : Int) < (ins.length : Int) := by omega
      have HBAD := Lib.hid (fun h => insOk_no hlt (inOk_bad (ins := ins) (k := k) h))
      have HNO := Lib.hid (fun h => insOk_no (ins := ins) hlt h)
      have HLA := Lib.hid (fun h => inOk_last (ins := ins) (k := k) h)
      have HL1 := Lib.hid (show lastS ins (k + 1) = ins.getD k ⟨#[]⟩ from by simp [lastS])
      have HS1 := Lib.hid (fun (h : inOk ins k = true) => show ∀ j, j < k + 1 → inOk ins j = true from fun j hj => by
        rcases Nat.lt_or_ge j k with h2 | h2
        · exact HS.out j h2
        · obtain rfl : j = k := by omega
          exact h)
      generalize ins.getD k ⟨#[]⟩ = s at *
      generalize lastS ins k = t at *
      cases hok : Nam.okP s
      · have HF := Lib.hid (HBAD.out hok)
        have HPN := Lib.hid (Nam.parse_no s wr hsz hok)
        clear hok
        go_wp2_with fail
        refine HPN.out.mono ?_
        rintro e w1 ⟨rfl, hb1⟩
        have HB1 := Lib.hid (below_step HB0.out (below_step HB.out hb1 HB.out.size) HB0.out.size)
        clear hb1
        go_wp2
        exact HP.out _ _ HF.out HB1.out
      · have HPY := Lib.hid (Nam.parse_yes s wr hsz hok)
        have HE := Lib.hid (HLA.out hok)
        clear hok
        generalize Nam.headS s = q1 at *
        generalize Nam.tailS s = q2 at *
        cases hle : leS s t
        · have HS2 := Lib.hid (HS1.out (by rw [HE.out, hle]; rfl))
          obtain ⟨hle1, hle2⟩ := Bool.or_eq_false_iff.1 (show (Op.bytesLess s.toList t.toList || (s.toList == t.toList)) = false from hle)
          clear hle
          go_wp2_with fail
          refine HPY.out.mono ?_
          rintro e w1 ⟨rfl, hb1⟩
          have HB1 := Lib.hid (below_step HB.out hb1 HB.out.size)
          clear hb1
          go_wp2
          go_roundw
          case rel => exact ⟨k + 1, by omega, by go_num, by rw [HL1.out], HS2, HB1⟩
          case measure => simp [intOf]; omega
        · have HF := Lib.hid (HNO.out (by rw [HE.out, hle]; rfl))
          have hle1 : (Op.bytesLess s.toList t.toList || (s.toList == t.toList)) = true := hle
          clear hle
          go_wp2_with fail
          refine HPY.out.mono ?_
          rintro e w1 ⟨rfl, hb1⟩
          have HB1 := Lib.hid (below_step HB0.out (below_step HB.out hb1 HB.out.size) HB0.out.size)
          clear hb1
          go_wp2
          exact HP.out _ _ HF.out HB1.out
    · have HF := Lib.hid (insOk_yes fun j hj => HS.out j (by omega))
      have HB1 := Lib.hid (below_step HB0.out HB.out HB0.out.size)
      go_wp2
      exact HP.out _ _ HF.out HB1.out
theorem right_drv (nm : ByteArray) (v : Value) (ins : List ByteArray) (rc : ByteArray) (w : World) (hv : TRow w AllB v ins) (hs : Small ins) (hn : nm.size ≤ maxLen) (hr : rc.size ≤ maxLen) :
    Calls Tryz.prog 9 #[.agg #[.string nm, v, .string rc]] w (YesNo (rightD nm ins rc) w) := by
  by_cases h1 : Nam.rightB nm = true ∧ nm.size ≤ 60
  · by_cases h2 : ins.length ≤ 64 ∧ rc.size ≤ 262144
    · have : rightD nm ins rc = insOk ins := by unfold rightD; rw [h1.1, decide_eq_true h1.2, decide_eq_true h2.1, decide_eq_true h2.2]; rfl
      rw [this]
      exact right_late nm v ins rc w hv hs hn hr h1.1 h1.2 h2.1 h2.2
    · have : rightD nm ins rc = false := by
        unfold rightD
        by_cases h3 : ins.length ≤ 64
        · rw [decide_eq_false (fun h4 => h2 ⟨h3, h4⟩)]; simp
        · rw [decide_eq_false h3]; simp
      rw [this]
      exact right_early nm v ins rc w hv hn hr (.inr ⟨h1, h2⟩)
  · have : rightD nm ins rc = false := by
      unfold rightD
      cases hb : Nam.rightB nm
      · rfl
      · rw [decide_eq_false (fun h4 => h1 ⟨hb, h4⟩)]; simp
    rw [this]
    exact right_early nm v ins rc w hv hn hr (.inl h1)
end Go.Proofs.YtbniilajffjfcaaGreatDoor

/- drv's reference: which derivations are right. -/
namespace Go.Proofs.YtbniilajffjfcaaGreatDoor
open Go.RowKit Go.BigFrame
open Drv (posO edges edgeAt dupB)

set_option maxRecDepth 100000 in
set_option maxHeartbeats 1000000 in
theorem refRight_early (nm : ByteArray) (v : Value) (ins : List ByteArray) (rc : ByteArray) (w : World) (hv : TRow w AllB v ins) (hn : nm.size ≤ maxLen) (hr : rc.size ≤ maxLen) (b : Bool) (hbb : Nam.rightB nm = b)
    (h : b = false ∨ (b = true ∧ (60 < nm.size ∨ (¬ 60 < nm.size ∧ (64 < ins.length ∨ (¬ 64 < ins.length ∧ 262144 < rc.size)))))) :
    Calls Tryz.prog 18 #[.agg #[.string nm, v, .string rc]] w (YesNo false w) := by
  obtain ⟨A, ca, rfl, hla, hma⟩ := RdS.form hv
  have HP := Lib.hid (fun (w' : World) (h1 : Below w.heap.size w w') => show YesNo false w (.returned (.bool false)) w' from ⟨rfl, h1⟩)
  generalize YesNo false w = post at *
  unfold maxLen at hma hn hr
  have HNR := Lib.hid (fun w' => hbb ▸ Nam.refRight_any nm w' (by unfold maxLen; exact hn))
  clear hv hbb
  go_enter Tryz.func18, Tryz.ntmps18
  go_upto_region 1 with (fail)
  obtain ⟨W0, hW0, hg0, hb0, hz0, hbb⟩ := row_at w w (.cells #[.string nm, .slice A ins.length ca, .string rc] 28) (Below.refl _ _)
  rw [← hW0]
  obtain ⟨hc0, hc1, hc2⟩ := three_cells hg0
  have HB := Lib.hid hbb
  clear hW0 hg0 hb0 hz0 hbb
  rcases h with rfl | ⟨rfl, h | ⟨h1, h | ⟨h2, h⟩⟩⟩
  · go_wp2_with fail
    refine (HNR.out _).mono ?_
    rintro e w' ⟨rfl, hw⟩
    obtain rfl := hw
    go_wp2
    exact HP.out _ HB.out
  · have h4 : (60 : Int) < (nm.size : Int) := by omega
    clear h
    go_wp2_with fail
    refine (HNR.out _).mono ?_
    rintro e w' ⟨rfl, hw⟩
    obtain rfl := hw
    go_wp2
    exact HP.out _ HB.out
  · have h4 : ¬ (60 : Int) < (nm.size : Int) := by omega
    have h5 : (64 : Int) < (ins.length : Int) := by omega
    clear h h1
    go_wp2_with fail
    refine (HNR.out _).mono ?_
    rintro e w' ⟨rfl, hw⟩
    obtain rfl := hw
    go_wp2
    exact HP.out _ HB.out
  · have h4 : ¬ (60 : Int) < (nm.size : Int) := by omega
    have h5 : ¬ (64 : Int) < (ins.length : Int) := by omega
    have h6 : (262144 : Int) < (rc.size : Int) := by omega
    clear h h1 h2
    go_wp2_with fail
    refine (HNR.out _).mono ?_
    rintro e w' ⟨rfl, hw⟩
    obtain rfl := hw
    go_wp2
    exact HP.out _ HB.out
set_option maxRecDepth 100000 in
set_option maxHeartbeats 2000000 in
theorem refRight_late (nm : ByteArray) (v : Value) (ins : List ByteArray) (rc : ByteArray) (w : World) (hv : TRow w AllB v ins) (hs : Small ins) (hn : nm.size ≤ maxLen) (hr : rc.size ≤ maxLen)
    (hb : Nam.rightB nm = true) (h1 : nm.size ≤ 60) (h2 : ins.length ≤ 64) (h3 : rc.size ≤ 262144) :
    Calls Tryz.prog 18 #[.agg #[.string nm, v, .string rc]] w (YesNo (insOk ins) w) := by
  have HP := Lib.hid (fun (b : Bool) (w' : World) (hb : insOk ins = b) (h1 : Below w.heap.size w w') => show YesNo (insOk ins) w (.returned (.bool b)) w' from ⟨by rw [hb], h1⟩)
  generalize YesNo (insOk ins) w = post at *
  have HNR := Lib.hid (fun w' => hb ▸ Nam.refRight_any nm w' hn)
  obtain ⟨A, ca, rfl, hla, hma⟩ := RdS.form hv
  unfold maxLen at hma hn hr
  clear hb
  go_enter Tryz.func18, Tryz.ntmps18
  go_upto_region 1 with (fail)
  obtain ⟨W0, hW0, hg0, hb0, hz0, hbb⟩ := row_at w w (.cells #[.string nm, .slice A ins.length ca, .string rc] 28) (Below.refl _ _)
  rw [← hW0]
  obtain ⟨hc0, hc1, hc2⟩ := three_cells hg0
  have HB0 := Lib.hid hbb
  have HG := Lib.hid hg0
  have hzz : w.heap.size < W0.heap.size := by omega
  have HV := Lib.hid (show TRow W0 AllB (.slice A ins.length ca) ins from RdS.below hv hb0)
  have h6 : ¬ (60 : Int) < (nm.size : Int) := by omega
  have h7 : ¬ (64 : Int) < (ins.length : Int) := by omega
  have h8 : ¬ (262144 : Int) < (rc.size : Int) := by omega
  clear hW0 hg0 hb0 hz0 hbb hv
  go_wp2_with fail
  refine (HNR.out _).mono ?_
  rintro e w' ⟨rfl, hw⟩
  obtain rfl := hw
  go_wp2
  go_loopw [3] (fun iv wr => ∃ k : Nat, k ≤ ins.length ∧ iv = .int .i64 k ∧ Hid (∀ j, j < k → inOk ins j = true) ∧ Hid (Below W0.heap.size W0 wr)) (fun iv _ => ins.length - (intOf iv).toNat)
  case atStart => exact ⟨0, by omega, rfl, Lib.hid fun j h => absurd h (Nat.not_lt_zero j), Lib.hid (Below.refl _ _)⟩
  case round =>
    clear hc0 hc1 hc2
    obtain ⟨k, hk, rfl, HS, HB⟩ := hrel
    obtain ⟨hc0, hc1, hc2⟩ := three_cells ((HB.out.block w.heap.size hzz).trans HG.out)
    by_cases hlt : k < ins.length
    · obtain ⟨ad, rfl, hcx⟩ := TRow.get (RdS.below HV.out HB.out) k hlt
      have hsz := hs.at hlt
      have hk' : (k : Int) < (ins.length : Int) := by omega
      have HBAD := Lib.hid (fun h => insOk_no hlt (inOk_bad (ins := ins) (k := k) h))
      have HNO := Lib.hid (fun h => insOk_no (ins := ins) hlt h)
      have HS1 := Lib.hid (fun (h : inOk ins k = true) => show ∀ j, j < k + 1 → inOk ins j = true from fun j hj => by
        rcases Nat.lt_or_ge j k with h2 | h2
        · exact HS.out j h2
        · obtain rfl : j = k := by omega
          exact h)
      by_cases hk0 : k = 0
      · have HI := Lib.hid (show ∀ (h : Nam.okP (ins.getD k ⟨#[]⟩) = true), inOk ins k = true from fun h => by unfold inOk; rw [h, hk0]; rfl)
        have hd1 : decide (0 < k) = false := decide_eq_false (by omega)
        have hd2 : decide ((0 : Int) < (k : Int)) = false := decide_eq_false (by omega)
        have hd3 : ¬ 0 < k := by omega
        generalize ins.getD k ⟨#[]⟩ = s at *
        clear hk0
        cases hok : Nam.okP s
        · have HF := Lib.hid (HBAD.out hok)
          have HPN := Lib.hid (Nam.refParse_no s wr hsz hok)
          clear hok
          go_wp2_with fail
          refine HPN.out.mono ?_
          rintro e w1 ⟨rfl, hb1⟩
          have HB1 := Lib.hid (below_step HB0.out (below_step HB.out hb1 HB.out.size) HB0.out.size)
          clear hb1
          go_wp2
          go_quiet (fail)
          go_wp2
          exact HP.out _ _ HF.out (below_drewN HB1.out _)
        · have HPY := Lib.hid (Nam.refParse_yes s wr hsz hok)
          have HS2 := Lib.hid (HS1.out (HI.out hok))
          clear hok
          generalize Nam.headS s = q1 at *
          generalize Nam.tailS s = q2 at *
          go_wp2_with fail
          refine HPY.out.mono ?_
          rintro e w1 ⟨rfl, hb1⟩
          have HB1 := Lib.hid (below_step HB.out hb1 HB.out.size)
          clear hb1
          go_wp2
          go_quiet (fail)
          go_wp2
          go_roundw
          case rel => exact ⟨k + 1, by omega, by go_num, HS2, Lib.hid (below_drewN HB1.out _)⟩
          case measure => simp [intOf]; omega
      · obtain ⟨p, hp⟩ : ∃ p, p + 1 = k := ⟨k - 1, by omega⟩
        have hpl : p < ins.length := by omega
        obtain ⟨ad', had, hcp⟩ := TRow.get (RdS.below HV.out HB.out) p hpl
        obtain rfl : ad = ad' := Option.some.inj had
        have HI := Lib.hid (show ∀ (h : Nam.okP (ins.getD k ⟨#[]⟩) = true), inOk ins k = !leS (ins.getD k ⟨#[]⟩) (ins.getD p ⟨#[]⟩) from fun h => by
          unfold inOk; rw [h, decide_eq_false hk0, show k - 1 = p by omega]; rfl)
        have HCX := Lib.hid (fun (w1 : World) (h : Below W0.heap.size W0 w1) => show w1.cell? (ad.add k) = some (.string (ins.getD k ⟨#[]⟩)) from by
          obtain ⟨ad', e, hc⟩ := TRow.get (RdS.below HV.out h) k hlt; cases e; exact hc)
        have HCP := Lib.hid (fun (w1 : World) (h : Below W0.heap.size W0 w1) => show w1.cell? (ad.add p) = some (.string (ins.getD p ⟨#[]⟩)) from by
          obtain ⟨ad', e, hc⟩ := TRow.get (RdS.below HV.out h) p hpl; cases e; exact hc)
        have hd1 : decide (0 < k) = true := decide_eq_true (by omega)
        have hd2 : decide ((0 : Int) < (k : Int)) = true := decide_eq_true (by omega)
        have hd3 : 0 < k := by omega
        have hpi : (p : Int) < (ins.length : Int) := by omega
        have hwr : IntKind.i64.wrap ((k : Int) - 1) = (p : Int) := (IntWalk.i64_in _ (by omega)).trans (by omega)
        generalize ins.getD k ⟨#[]⟩ = s at *
        generalize ins.getD p ⟨#[]⟩ = t at *
        clear hk0 had hp
        cases hok : Nam.okP s
        · have HF := Lib.hid (HBAD.out hok)
          have HPN := Lib.hid (Nam.refParse_no s wr hsz hok)
          clear hok
          go_wp2_with fail
          refine HPN.out.mono ?_
          rintro e w1 ⟨rfl, hb1⟩
          have HB1 := Lib.hid (below_step HB0.out (below_step HB.out hb1 HB.out.size) HB0.out.size)
          clear hb1
          go_wp2
          go_quiet (fail)
          go_wp2
          exact HP.out _ _ HF.out (below_drewN HB1.out _)
        · have HPY := Lib.hid (Nam.refParse_yes s wr hsz hok)
          have HE := Lib.hid (HI.out hok)
          clear hok
          generalize Nam.headS s = q1 at *
          generalize Nam.tailS s = q2 at *
          cases hle : leS s t
          · have HS2 := Lib.hid (HS1.out (by rw [HE.out, hle]; rfl))
            obtain ⟨hle1, hle2⟩ := Bool.or_eq_false_iff.1 (show (Op.bytesLess s.toList t.toList || (s.toList == t.toList)) = false from hle)
            clear hle
            go_wp2_with fail
            refine HPY.out.mono ?_
            rintro e w1 ⟨rfl, hb1⟩
            have HB1 := Lib.hid (below_step HB.out hb1 HB.out.size)
            have hd0 := (three_cells ((HB1.out.block w.heap.size hzz).trans HG.out)).2.1
            have hdx := HCX.out w1 HB1.out
            have hdp := HCP.out w1 HB1.out
            clear hb1
            go_wp2
            go_quiet (fail)
            go_wp2
            go_roundw
            case rel => exact ⟨k + 1, by omega, by go_num, HS2, Lib.hid (below_drewN HB1.out _)⟩
            case measure => simp [intOf]; omega
          · have HF := Lib.hid (HNO.out (by rw [HE.out, hle]; rfl))
            have hle1 : (Op.bytesLess s.toList t.toList || (s.toList == t.toList)) = true := hle
            clear hle
            go_wp2_with fail
            refine HPY.out.mono ?_
            rintro e w1 ⟨rfl, hb1⟩
            have HB1 := Lib.hid (below_step HB.out hb1 HB.out.size)
            have hd0 := (three_cells ((HB1.out.block w.heap.size hzz).trans HG.out)).2.1
            have hdx := HCX.out w1 HB1.out
            have hdp := HCP.out w1 HB1.out
            clear hb1
            go_wp2
            go_quiet (fail)
            go_wp2
            exact HP.out _ _ HF.out (below_drewN (below_step HB0.out HB1.out HB0.out.size) _)
    · have HF := Lib.hid (insOk_yes fun j hj => HS.out j (by omega))
      have HB1 := Lib.hid (below_step HB0.out HB.out HB0.out.size)
      go_wp2
      exact HP.out _ _ HF.out HB1.out
theorem refRight_drv (nm : ByteArray) (v : Value) (ins : List ByteArray) (rc : ByteArray) (w : World) (hv : TRow w AllB v ins) (hs : Small ins) (hn : nm.size ≤ maxLen) (hr : rc.size ≤ maxLen) :
    Calls Tryz.prog 18 #[.agg #[.string nm, v, .string rc]] w (YesNo (rightD nm ins rc) w) := by
  cases hb : Nam.rightB nm
  · have : rightD nm ins rc = false := by unfold rightD; rw [hb]; rfl
    rw [this]
    exact refRight_early nm v ins rc w hv hn hr false hb (.inl rfl)
  · by_cases h1 : 60 < nm.size
    · have : rightD nm ins rc = false := by unfold rightD; rw [decide_eq_false (show ¬ nm.size ≤ 60 by omega)]; simp
      rw [this]
      exact refRight_early nm v ins rc w hv hn hr true hb (.inr ⟨rfl, .inl h1⟩)
    · by_cases h2 : 64 < ins.length
      · have : rightD nm ins rc = false := by unfold rightD; rw [decide_eq_false (show ¬ ins.length ≤ 64 by omega)]; simp
        rw [this]
        exact refRight_early nm v ins rc w hv hn hr true hb (.inr ⟨rfl, .inr ⟨h1, .inl h2⟩⟩)
      · by_cases h3 : 262144 < rc.size
        · have : rightD nm ins rc = false := by unfold rightD; rw [decide_eq_false (show ¬ rc.size ≤ 262144 by omega)]; simp
          rw [this]
          exact refRight_early nm v ins rc w hv hn hr true hb (.inr ⟨rfl, .inr ⟨h1, .inr ⟨h2, h3⟩⟩⟩)
        · have : rightD nm ins rc = insOk ins := by unfold rightD; rw [hb, decide_eq_true (show nm.size ≤ 60 by omega), decide_eq_true (show ins.length ≤ 64 by omega), decide_eq_true (show rc.size ≤ 262144 by omega)]; rfl
          rw [this]
          exact refRight_late nm v ins rc w hv hs hn hr hb (by omega) (by omega) (by omega)
end Go.Proofs.YtbniilajffjfcaaGreatDoor
