/- cnf: the laws CnfNorm and CnfUnit. -/
import Derived.Test.YtapaoccpbcjgeaaCnmQ
import Derived.Deep.RegionHeld3
namespace Go.Proofs.Ytapaoccpbcjgeaa
open Go.RowKit Go.BigFrame
open Cnf (litB countN leftL heldB firstsI unitsF bothB IsNorm)

def NormRes (c l : List Int) (x : Bool) : Prop := (normOk c = false ∧ l = [] ∧ x = false) ∨ (normOk c = true ∧ bothB c = true ∧ l = [] ∧ x = true) ∨ (normOk c = true ∧ bothB c = false ∧ IsNorm c l ∧ x = false)
theorem NormRes.unique {c l m : List Int} {x y : Bool} (h : NormRes c l x) (h2 : NormRes c m y) : l = m ∧ x = y := by
  rcases h with ⟨a, rfl, rfl⟩ | ⟨a, b, rfl, rfl⟩ | ⟨a, b, hl, rfl⟩ <;> rcases h2 with ⟨a2, rfl, rfl⟩ | ⟨a2, b2, rfl, rfl⟩ | ⟨a2, b2, hm, rfl⟩ <;> first | exact ⟨rfl, rfl⟩ | exact ⟨hl.unique hm, rfl⟩ | (rw [a] at a2; exact absurd a2 (by decide)) | (rw [b] at b2; exact absurd b2 (by decide))
def NormR (c : List Int) (w : World) (e : Ending) (w' : World) : Prop :=
  ∃ A cap l x, e = .returned (.tuple #[.slice A l.length cap, .bool x]) ∧ NormRes c l x ∧ Below w.heap.size w w' ∧ w'.ownsRow w.heap.size 3 1 (.slice A l.length cap) l.length (ints l)
theorem norm_r {c : List Int} {w : World} {e : Ending} {w' : World} (h : NormPost c w e w') : NormR c w e w' := by
  obtain ⟨hb, ⟨h, rfl⟩ | ⟨h, h2, rfl⟩ | ⟨h, h2, u, l, hl, rfl, ho⟩⟩ := h
  · exact ⟨none, 0, [], false, rfl, .inl ⟨h, rfl, rfl⟩, hb, World.ownsRow_nil _ _ _ _⟩
  · exact ⟨none, 0, [], true, rfl, .inr (.inl ⟨h, h2, rfl, rfl⟩), hb, World.ownsRow_nil _ _ _ _⟩
  · obtain ⟨A, cap, rfl⟩ := own_form ho
    exact ⟨A, cap, l, false, rfl, .inr (.inr ⟨h, h2, hl, rfl⟩), hb, ho⟩
theorem normRes_len {c l : List Int} {x : Bool} (h : NormRes c l x) : l.length ≤ c.length := by
  rcases h with ⟨_, rfl, _⟩ | ⟨_, _, rfl, _⟩ | ⟨_, _, hl, _⟩
  · simp
  · simp
  · exact norm_len hl
theorem same_w (a b : Value) (xs : List Int) (w : World) (ha : IRow w AllB a xs) (hb : IRow w AllB b xs) : Calls Try.prog 19 #[a, b] w fun e w' => e = .returned (.bool true) ∧ Below w.heap.size w w' :=
  (same_is a b xs w ha hb).mono fun e w' ⟨he, nq, hw⟩ => ⟨he, by rw [hw]; exact below_drewN (Below.refl _ _) _⟩
set_option maxRecDepth 100000 in
set_option maxHeartbeats 4000000 in
theorem cnfNorm_walk (a : Value) (c : List Int) (w : World) (ha : IRow w AllB a c) : Calls Try.prog 4 #[a] w fun e w' => e = .returned (.bool true) ∧ Below w.heap.size w w' := by
  obtain ⟨i0, hi, hz0, hz1, hz2⟩ := info_parts infoInt
  obtain ⟨A, ca, rfl, hla, hma⟩ := RdS.form ha
  unfold maxLen at hma
  have HA := Lib.hid ha
  clear ha
  go_enter Try.func4, Try.ntmps4
  by_cases h200 : c.length ≤ 200
  · have h200' : ¬ (200 : Int) < (c.length : Int) := by omega
    have HR := Lib.hid (show Reads w w.heap.size (.slice A c.length ca) (ints c) from RdS.reads (S := AllB) (by rw [ints_len]; exact HA.out))
    go_wp2_with (at_builtin; refine wpList_app_reads rfl _ _ 35 rfl w.heap.size 3 i0 (.int .i64 0) 8 Try.underlying35 hi hz0 hz1 hz2 rfl _ 0 [] rfl (World.ownsRow_nil _ _ _ _) (.slice A c.length ca) (ints c) w.heap.size rfl HR.out (ints_one c) ?c1 ?c2 (Nat.le_refl _) ?_)
    case c1 => rw [ints_len]; unfold maxLen; omega
    case c2 => rw [ints_len]; omega
    intro v1 w1 hown1 hgrow1
    have hb1 : Below w.heap.size w w1 := (Below.refl _ _).grown hgrow1 (Nat.le_refl _) (fun k e => by cases e)
    simp only [ints_len] at hown1
    have HB1 := Lib.hid hb1
    have HA1 := Lib.hid (RdS.below HA.out hb1)
    have HI1 := Lib.hid (show IRow w1 AllB v1 c from RdS.all (RdS.own hown1))
    have HLT := Lib.hid hown1.lt
    obtain ⟨A1, cap1, rfl⟩ := own_form hown1
    clear hgrow1 hown1 hb1
    go_wp2_with fail
    refine (norm_any _ c w1 HI1.out (by omega)).mono ?_
    rintro e w2 h2
    obtain ⟨A2, cap2, l, x, rfl, hn2, hb2, ho2⟩ := norm_r h2
    have HN2 := Lib.hid hn2
    have HC2 := Lib.hid hb2
    have HA2 := Lib.hid (RdS.below HA1.out hb2)
    have HI2 := Lib.hid (RdS.below HI1.out hb2)
    have HO2 := Lib.hid ho2
    have HS2 := Lib.hid hb2.size
    clear hn2 hb2 ho2 h2
    go_wp2_with fail
    refine (refNorm_any _ c w2 HA2.out (by omega)).mono ?_
    rintro e w3 h3
    obtain ⟨A3, cap3, l3, x3, rfl, hn3, hb3, ho3⟩ := norm_r h3
    obtain ⟨hll, hxx⟩ := hn3.unique HN2.out
    subst hll
    subst hxx
    have hln := normRes_len hn3
    have HC3 := Lib.hid (below_step HC2.out hb3 HC2.out.size)
    have HA3 := Lib.hid (RdS.below HA2.out hb3)
    have HI3 := Lib.hid (RdS.below HI2.out hb3)
    have HO3 := Lib.hid (own_below HO2.out hb3 (Nat.le_refl _))
    have HOI := Lib.hid (show IRow w3 AllB (.slice A2 l3.length cap2) l3 from RdS.all (RdS.own HO3.out))
    have HPI := Lib.hid (show IRow w3 AllB (.slice A3 l3.length cap3) l3 from RdS.all (RdS.own ho3))
    have HS3 := Lib.hid hb3.size
    clear hn3 hb3 ho3 h3
    have hxe : (x3 != x3) = false := by simp
    go_wp2_with fail
    refine (same_w _ _ l3 w3 HOI.out HPI.out).mono ?_
    rintro e w4 ⟨rfl, hb4⟩
    have HC4 := Lib.hid (below_step HC3.out hb4 HC3.out.size)
    have HO4 : Hid (∃ xs, w4.ownsRow w1.heap.size 3 1 (.slice A2 l3.length cap2) l3.length xs) := Lib.hid ⟨_, own_below HO3.out hb4 (Nat.le_refl _)⟩
    clear hb4 HOI HPI HA3 HI3 HO3 HA2 HI2 HO2 HS2 HS3 HN2 HC2 HC3
    go_wp2
    go_loopw [8] (fun iv wr => ∃ m : Nat, m ≤ l3.length ∧ iv = .int .i64 m ∧ Hid (Below w1.heap.size w1 wr) ∧ Hid (∃ xs, wr.ownsRow w1.heap.size 3 1 (.slice A2 l3.length cap2) l3.length xs)) (fun iv _ => l3.length - (intOf iv).toNat)
    case atStart => exact ⟨0, by omega, rfl, HC4, HO4⟩
    case round =>
      clear HC4 HO4
      obtain ⟨m, hm, rfl, HC, HO⟩ := hrel
      by_cases hlt : m < l3.length
      · obtain ⟨xs, hxs⟩ := HO.out
        obtain ⟨g, cap, hgg, hg, hgl, hnc, hcm⟩ := own_at hxs (by omega)
        simp only [Value.slice.injEq, true_and] at hgg
        obtain ⟨rfl, rfl⟩ := hgg
        obtain ⟨u, hu⟩ : ∃ u, xs[m]? = some u := ⟨_, List.getElem?_eq_getElem (by rw [hxs.1]; omega)⟩
        have hcell := (World.ownsRow.cellAt hxs m (by omega)).trans hu
        have hfr := World.ownsRow.frozenAt hxs m
        have HC' := Lib.hid (HC.out.setCell (p := ⟨g, m, none⟩) hg (.int .i64 7777))
        have HO' : Hid (∃ xs, (wr.setCell ⟨g, m, none⟩ (.int .i64 7777)).ownsRow w1.heap.size 3 1 (.slice (some ⟨g, 0, none⟩) l3.length cap2) l3.length xs) := Lib.hid ⟨_, (World.ownsRow.stored hxs m _).1⟩
        have hm' : (m : Int) < (l3.length : Int) := by omega
        clear hxs hu hg hgl hcm HO HC
        go_wp2
        go_roundw
        case rel => exact ⟨m + 1, by omega, by go_num, HC', HO'⟩
        case measure => simp [intOf]; omega
      · have hm' : ¬ (m : Int) < (l3.length : Int) := by omega
        have HBF := Lib.hid (below_step HB1.out HC.out HB1.out.size)
        have HSA := Lib.hid (same_w _ _ c wr (show IRow wr AllB (.slice A1 c.length cap1) c from RdS.below HI1.out HC.out) (show IRow wr AllB (.slice A c.length ca) c from RdS.below HA.out HBF.out))
        clear HO
        go_wp2_with fail
        refine HSA.out.mono ?_
        rintro e w5 ⟨rfl, hb5⟩
        have HB5 := Lib.hid (below_step HBF.out hb5 HBF.out.size)
        clear hb5
        go_wp2_with fail
        refine (works_any _).mono ?_
        rintro e w6 ⟨rfl, hb6⟩
        have HB6 := Lib.hid (below_step HB5.out hb6 HB5.out.size)
        clear hb6
        go_wp2
        go_ret
        exact ⟨rfl, HB6.out⟩
  · have h200' : (200 : Int) < (c.length : Int) := by omega
    go_wp2_with fail
    refine (works_any _).mono ?_
    rintro e w' ⟨rfl, hb⟩
    go_wp2
    go_ret
    exact ⟨rfl, hb⟩
end Go.Proofs.Ytapaoccpbcjgeaa

/- cnf: the laws CnfUnit, CnfHolds and CnfCheck. -/
namespace Go.Proofs.Ytapaoccpbcjgeaa
open Go.RowKit Go.BigFrame
open Cnf (litB countN leftL heldB firstsI unitsF bothB IsNorm)

theorem few_true {v : Int} {cs : List (List Int)} {m : Nat} (h : fewB v cs m = true) : v ≤ m ∧ cs.length ≤ m ∧ countN cs ≤ m := of_decide_eq_true h
theorem works_b (w0 w : World) (h : Below w0.heap.size w0 w) : Calls Try.prog 11 #[] w fun e w' => e = .returned (.bool true) ∧ Below w0.heap.size w0 w' :=
  (works_any w).mono fun _ _ ⟨he, hb⟩ => ⟨he, below_step h hb h.size⟩
theorem plain_b (v : Int) (A : Option Addr) (n cap : Nat) (w0 w : World) (h : Below w0.heap.size w0 w) : Calls Try.prog 14 #[.agg #[.int .i64 v, .slice A n cap]] w fun e w' => e = .returned (.agg #[.int .i64 v, .slice A n cap]) ∧ Below w0.heap.size w0 w' :=
  (plain_any v A n cap w).mono fun _ _ ⟨he, hb⟩ => ⟨he, below_step h hb h.size⟩
/-- What Unit answers, of either side. -/
def UnitR (v : Int) (cs : List (List Int)) (lits : List Int) (w : World) (e : Ending) (w' : World) : Prop :=
  ∃ A cap, e = .returned (.tuple #[.slice A (if goodB v cs lits = true then (unitsF cs (firstsI lits)).1 else []).length cap, .bool (if goodB v cs lits = true then (unitsF cs (firstsI lits)).2 else true)]) ∧ Below w.heap.size w w' ∧ w'.ownsRow w.heap.size 3 1 (.slice A (if goodB v cs lits = true then (unitsF cs (firstsI lits)).1 else []).length cap) (if goodB v cs lits = true then (unitsF cs (firstsI lits)).1 else []).length (ints (if goodB v cs lits = true then (unitsF cs (firstsI lits)).1 else []))
theorem unit_r {v : Int} {cs : List (List Int)} {lits : List Int} {w : World} {e : Ending} {w' : World} (h : UnitPost v cs lits w e w') : UnitR v cs lits w e w' := by
  unfold UnitR
  obtain ⟨hb, ⟨h, rfl⟩ | ⟨h, u, rfl, ho⟩⟩ := h
  · rw [h, if_neg (by simp), if_neg (by simp)]
    exact ⟨none, 0, rfl, hb, World.ownsRow_nil _ _ _ _⟩
  · rw [if_pos h, if_pos h]
    obtain ⟨A, cap, rfl⟩ := own_form ho
    exact ⟨A, cap, rfl, hb, ho⟩
def uRow (v : Int) (cs : List (List Int)) (lits : List Int) : List Int := if goodB v cs lits = true then (unitsF cs (firstsI lits)).1 else []
def uBit (v : Int) (cs : List (List Int)) (lits : List Int) : Bool := if goodB v cs lits = true then (unitsF cs (firstsI lits)).2 else true
def UnitQ (S : List Int) (b : Bool) (w : World) (e : Ending) (w' : World) : Prop :=
  ∃ A cap, e = .returned (.tuple #[.slice A S.length cap, .bool b]) ∧ Below w.heap.size w w' ∧ IRow w' AllB (.slice A S.length cap) S
theorem unit_q {v : Int} {cs : List (List Int)} {lits : List Int} {w : World} {e : Ending} {w' : World} (h : UnitPost v cs lits w e w') : UnitQ (uRow v cs lits) (uBit v cs lits) w e w' := by
  obtain ⟨A, cap, he, hb, ho⟩ := unit_r h
  exact ⟨A, cap, he, hb, RdS.all (RdS.own ho)⟩
set_option maxRecDepth 100000 in
set_option maxHeartbeats 4000000 in
theorem cnfUnit_walk (v : Int) (a : Value) (cs : List (List Int)) (lv : Value) (lits : List Int) (w : World) (ha : RowsAt w a cs) (hl : IRow w AllB lv lits) : Calls Try.prog 6 #[.agg #[.int .i64 v, a], lv] w fun e w' => e = .returned (.bool true) ∧ Below w.heap.size w w' := by
  obtain ⟨A, ca, rfl, hla, hma⟩ := ha.form
  obtain ⟨A2, cb, rfl, hlb, hmb⟩ := RdS.form hl
  unfold maxLen at hma hmb
  go_enter Try.func6, Try.ntmps6
  go_upto_region 1 with (fail)
  obtain ⟨W0, hW0, hg0, hb0, hz0', hbb⟩ := row_at w w (.cells #[.int .i64 v, .slice A cs.length ca] 24) (Below.refl _ _)
  rw [← hW0]
  have HA := Lib.hid (ha.below hb0)
  have HS := Lib.hid (RdS.below hl hb0)
  have HG0 := Lib.hid hg0
  have hzz : w.heap.size < W0.heap.size := by omega
  have HBB := Lib.hid hbb
  obtain ⟨hc0, hc1, hf0, hf1⟩ := cell_two hg0
  clear hW0 ha hl hb0 hz0' hg0 hbb
  have HF := Lib.hid (few_any v _ cs 150 W0 (by omega) HA.out)
  cases hfw : fewB v cs 150
  · rw [hfw] at HF
    clear hfw
    go_wp2_with fail
    refine HF.out.mono ?_
    rintro e w' ⟨rfl, hw⟩
    obtain rfl := hw.symm
    go_wp2_with fail
    refine (works_b w _ HBB.out).mono ?_
    rintro e w' ⟨rfl, hb⟩
    go_wp2
    go_ret
    exact ⟨rfl, hb⟩
  · rw [hfw] at HF
    have HFT := Lib.hid (few_true hfw)
    clear hfw
    by_cases h60 : lits.length ≤ 60
    · have h60' : ¬ (60 : Int) < (lits.length : Int) := by omega
      have HU1 := Lib.hid (unit_any v _ _ cs lits W0 HA.out HS.out (by have := HFT.out; omega) (by have := HFT.out; omega) (by omega))
      go_wp2_with fail
      refine HF.out.mono ?_
      rintro e w' ⟨rfl, hw⟩
      obtain rfl := hw.symm
      go_wp2_with fail
      refine HU1.out.mono ?_
      rintro e w1 h1
      obtain ⟨A3, c3, rfl, hb1, hi1⟩ := unit_q h1
      obtain ⟨S, hS⟩ : ∃ S, Hid (S = uRow v cs lits) := ⟨_, Lib.hid rfl⟩
      obtain ⟨b, hb⟩ : ∃ b, Hid (b = uBit v cs lits) := ⟨_, Lib.hid rfl⟩
      rw [← hS.out] at hi1
      rw [← hS.out, ← hb.out]
      have HI1 := Lib.hid hi1
      have HB1 := Lib.hid (below_step HBB.out hb1 HBB.out.size)
      have HA1 := Lib.hid (HA.out.below hb1)
      have HS1 := Lib.hid (RdS.below HS.out hb1)
      have HG1 := Lib.hid ((hb1.block w.heap.size hzz).trans HG0.out)
      obtain ⟨hd0, hd1, _, _⟩ := cell_two HG1.out
      have hz1 := hb1.size
      clear hi1 hb1 h1 hc0 hc1 hf0 hf1 HU1
      go_wp2_with fail
      refine (plain_any v _ _ _ w1).mono ?_
      rintro e w2 ⟨rfl, hb2⟩
      have HI2 := Lib.hid (RdS.below HI1.out hb2)
      have HB2 := Lib.hid (below_step HB1.out hb2 HB1.out.size)
      have HA2 := Lib.hid (HA1.out.below hb2)
      have HS2 := Lib.hid (RdS.below HS1.out hb2)
      clear hb2 hd0 hd1
      have HU2 := Lib.hid (refUnit_any v _ _ cs lits w2 HA2.out HS2.out (by have := HFT.out; omega) (by have := HFT.out; omega) (by omega))
      go_wp2_with fail
      refine HU2.out.mono ?_
      rintro e w3 h3
      obtain ⟨A4, c4, rfl, hb3, hi3⟩ := unit_q h3
      rw [← hS.out] at hi3
      rw [← hS.out, ← hb.out]
      have HI3 := Lib.hid hi3
      have HI3' := Lib.hid (RdS.below HI2.out hb3)
      have HB3 := Lib.hid (below_step HB2.out hb3 HB2.out.size)
      have HSA := Lib.hid (same_w _ _ S w3 (show IRow w3 AllB (.slice A3 S.length c3) S from HI3'.out) HI3.out)
      have hbe : (b == b) = true := by simp
      clear hi3 hb3 h3 HU2
      go_wp2_with fail
      refine HSA.out.mono ?_
      rintro e w4 ⟨rfl, hb4⟩
      have HB4 := Lib.hid (below_step HB3.out hb4 HB3.out.size)
      clear hb4
      go_wp2_with fail
      refine (works_b w _ HB4.out).mono ?_
      rintro e w' ⟨rfl, hb⟩
      go_wp2
      go_ret
      exact ⟨rfl, hb⟩
    · have h60' : (60 : Int) < (lits.length : Int) := by omega
      go_wp2_with fail
      refine HF.out.mono ?_
      rintro e w' ⟨rfl, hw⟩
      obtain rfl := hw.symm
      go_wp2_with fail
      refine (works_b w _ HBB.out).mono ?_
      rintro e w' ⟨rfl, hb⟩
      go_wp2
      go_ret
      exact ⟨rfl, hb⟩
end Go.Proofs.Ytapaoccpbcjgeaa
