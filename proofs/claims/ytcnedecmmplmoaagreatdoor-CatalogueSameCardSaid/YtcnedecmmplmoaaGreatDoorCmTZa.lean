/- catalogue: the kit's SmallRange, SmallNeeds, SmallList. -/
import Derived.Test.YtcnedecmmplmoaaGreatDoorCm34
import Derived.Test.YtcnedecmmplmoaaGreatDoorCm19
set_option linter.unusedVariables false
set_option linter.unusedSimpArgs false
namespace Go.Proofs.YtcnedecmmplmoaaGreatDoor
open Go Go.RowKit Go.BigFrame
open Ver (cmpV BL parts brk)

def SmallRow7 (row : List Bd) : Prop := row.length ≤ 70 ∧ ∀ b ∈ row, b.2.size ≤ 70
def SmallR7 (r : List (List Bd)) : Prop := r.length ≤ 70 ∧ ∀ row ∈ r, SmallRow7 row
def SmallPost7 (r : List (List Bd)) (w : World) (e : Ending) (w' : World) : Prop := ∃ b, e = .returned (.bool b) ∧ (b = true → SmallR7 r) ∧ w' = w
set_option maxRecDepth 100000 in
set_option maxHeartbeats 2000000 in
theorem smallR7_any (a : Value) (r : List (List Bd)) (w : World) (ha : RngAt w a r) :
    Calls Tryz.prog 47 #[a, .int .i64 70] w (SmallPost7 r w) := by
  obtain ⟨A, ca, rfl, hla, hma⟩ := ha.form
  unfold maxLen at hma
  have HA := Lib.hid ha
  clear ha
  by_cases hl : r.length ≤ 70
  · have hlI : ¬ (r.length : Int) > 70 := by omega
    go_enter Tryz.func47, Tryz.ntmps47
    go_wp2
    go_loopw [5, 6] (fun nv i wr => ∃ (k n : Nat), k ≤ r.length ∧ n ≤ 70 ∧ nv = .int .i64 (n : Int) ∧ i = .int .i64 (k : Int) ∧ Hid (∀ row ∈ r.take k, SmallRow7 row) ∧ Hid (wr = w)) (fun _ i _ => r.length - (intOf i).toNat)
    case atStart => exact ⟨0, 0, by omega, by omega, rfl, rfl, Lib.hid (by simp), Lib.hid (by first | rfl | trivial)⟩
    case round =>
      obtain ⟨k, n, hk, hn, rfl, rfl, HS, HW⟩ := hrel
      have hwr := HW.out
      subst hwr
      clear HW
      by_cases hlt : k < r.length
      · have hltI : (k : Int) < (r.length : Int) := by omega
        have hk0 : (0 : Int) ≤ (k : Int) := by omega
        obtain ⟨ad, u, rfl, hc, hrow⟩ := HA.out.get k hlt
        obtain ⟨row, hrw⟩ : ∃ row, row = r.getD k default := ⟨_, rfl⟩
        rw [← hrw] at hrow
        have HRK := Lib.hid (show r[k]? = some row by rw [hrw]; exact getD_get r k _ hlt)
        obtain ⟨A2, cap2, rfl, hcl2, hcm2⟩ := RdS.form hrow
        have HROW := Lib.hid hrow
        clear hrow hrw
        unfold maxLen at hcm2
        have hsub : IntKind.i64.wrap ((70 : Int) - (n : Int)) = (70 : Int) - (n : Int) := IntWalk.i64_in _ (by omega)
        by_cases hrl : row.length ≤ 70 - n
        · have hrI : ¬ (row.length : Int) > (70 : Int) - (n : Int) := by omega
          have hadd : IntKind.i64.wrap ((n : Int) + (row.length : Int)) = (n : Int) + (row.length : Int) := IntWalk.i64_in _ (by omega)
          go_wp2
          clear hsub hadd hrI
          obtain ⟨n0, hn0⟩ : ∃ n0 : Nat, n0 = n + row.length := ⟨_, rfl⟩
          have hn0l : n0 ≤ 70 := by omega
          rw [show (n : Int) + (row.length : Int) = (n0 : Int) by omega]
          go_loopw [5, 7] (fun nv j wq => ∃ (m n2 : Nat), m ≤ row.length ∧ n2 ≤ 70 ∧ nv = .int .i64 (n2 : Int) ∧ j = .int .i64 (m : Int) ∧ Hid (∀ b ∈ row.take m, b.2.size ≤ 70) ∧ Hid (wq = wr)) (fun _ j _ => row.length - (intOf j).toNat)
          case atStart => exact ⟨0, n0, by omega, hn0l, rfl, rfl, Lib.hid (by simp), Lib.hid (by first | rfl | trivial)⟩
          case round =>
            obtain ⟨m, n2, hm, hn2, rfl, rfl, HT, HW2⟩ := hrel
            have hwq := HW2.out
            subst hwq
            clear HW2
            by_cases hmt : m < row.length
            · have hmtI : (m : Int) < (row.length : Int) := by omega
              have hm0 : (0 : Int) ≤ (m : Int) := by omega
              obtain ⟨ad2, rfl, hbc⟩ := BRow.get HROW.out m hmt
              obtain ⟨b, hbb⟩ : ∃ b, b = row.getD m default := ⟨_, rfl⟩
              rw [← hbb] at hbc
              have HBK := Lib.hid (show row[m]? = some b by rw [hbb]; exact getD_get row m _ hmt)
              clear hbb
              have hb1 : wr.cell? ⟨(ad2.add (m * 2)).block, (ad2.add (m * 2)).off + 1, none⟩ = some (.string b.2) := hbc 1 _ rfl
              clear hbc
              have hsub : IntKind.i64.wrap ((70 : Int) - (n2 : Int)) = (70 : Int) - (n2 : Int) := IntWalk.i64_in _ (by omega)
              by_cases hvl : b.2.size ≤ 70 - n2
              · have hvI : ¬ (b.2.size : Int) > (70 : Int) - (n2 : Int) := by omega
                have hadd : IntKind.i64.wrap ((n2 : Int) + (b.2.size : Int)) = (n2 : Int) + (b.2.size : Int) := IntWalk.i64_in _ (by omega)
                have HN := Lib.hid (all_take (fun b : Bd => b.2.size ≤ 70) row m b HBK.out HT.out (by omega))
                go_wp2
                go_roundw
                case rel => exact ⟨m + 1, n2 + b.2.size, by omega, by omega, by rw [Int.natCast_add], by go_num, HN, Lib.hid (by first | rfl | trivial)⟩
                case measure => simp [intOf]; omega
              · have hvI : (b.2.size : Int) > (70 : Int) - (n2 : Int) := by omega
                go_wp2
                go_ret
                exact ⟨_, rfl, (fun h => by cases h), rfl⟩
            · have hmtI : ¬ (m : Int) < (row.length : Int) := by omega
              have HN := Lib.hid (all_take SmallRow7 r k row HRK.out HS.out ⟨by omega, by have := HT.out; rwa [show m = row.length by omega, List.take_length] at this⟩)
              go_wp2
              go_roundw
              case rel => exact ⟨k + 1, n2, by omega, by omega, rfl, by go_num, HN, Lib.hid (by first | rfl | trivial)⟩
              case measure => simp [intOf]; omega
        · have hrI : (row.length : Int) > (70 : Int) - (n : Int) := by omega
          go_wp2
          go_ret
          exact ⟨_, rfl, (fun h => by cases h), rfl⟩
      · have hke : k = r.length := by omega
        subst hke
        have hltI : ¬ (r.length : Int) < (r.length : Int) := by omega
        have HN := Lib.hid (show SmallR7 r from ⟨hl, by have := HS.out; rwa [List.take_length] at this⟩)
        go_wp2
        go_ret
        exact ⟨true, rfl, fun _ => HN.out, rfl⟩
  · have hlI : (r.length : Int) > 70 := by omega
    go_enter Tryz.func47, Tryz.ntmps47
    go_wp2
    go_ret
    exact ⟨_, rfl, (fun h => by cases h), rfl⟩
theorem SmallR7.short {r : List (List Bd)} (h : SmallR7 r) : Short r := fun row hr b hb => Nat.le_trans ((h.2 row hr).2 b hb) (by omega)
def SmallN (l : List Nde) : Prop := l.length ≤ 70 ∧ ∀ n ∈ l, n.1.size ≤ 70 ∧ SmallR7 n.2
def SmallNPost (l : List Nde) (w : World) (e : Ending) (w' : World) : Prop := ∃ b, e = .returned (.bool b) ∧ (b = true → SmallN l) ∧ w' = w
set_option maxRecDepth 100000 in
set_option maxHeartbeats 2000000 in
theorem smallN_any (a : Value) (l : List Nde) (w : World) (ha : NdsAt w a l) :
    Calls Tryz.prog 21 #[a, .int .i64 70] w (SmallNPost l w) := by
  obtain ⟨A, ca, rfl, hla, hma⟩ := OutM.form ha
  unfold maxLen at hma
  have HA := Lib.hid ha
  clear ha
  by_cases hl : l.length ≤ 70
  · have hlI : ¬ (l.length : Int) > 70 := by omega
    go_enter Tryz.func21, Tryz.ntmps21
    go_wp2
    go_loopw [5] (fun i wr => ∃ (k : Nat), k ≤ l.length ∧ i = .int .i64 (k : Int) ∧ Hid (∀ n ∈ l.take k, n.1.size ≤ 70 ∧ SmallR7 n.2) ∧ Hid (wr = w)) (fun i _ => l.length - (intOf i).toNat)
    case atStart => exact ⟨0, by omega, rfl, Lib.hid (by simp), Lib.hid (by first | rfl | trivial)⟩
    case round =>
      obtain ⟨k, hk, rfl, HS, HW⟩ := hrel
      have hwr := HW.out
      subst hwr
      clear HW
      by_cases hlt : k < l.length
      · have hltI : (k : Int) < (l.length : Int) := by omega
        have hk0 : (0 : Int) ≤ (k : Int) := by omega
        obtain ⟨ad, A2, c2, rfl, h0, h1, hr⟩ := NdsAt.get HA.out k hlt
        obtain ⟨x, hx⟩ : ∃ x, x = l.getD k default := ⟨_, rfl⟩
        rw [← hx] at h0 h1 hr
        have HXK := Lib.hid (show l[k]? = some x by rw [hx]; exact getD_get l k _ hlt)
        have HSR := Lib.hid (smallR7_any _ _ wr hr)
        clear hx hr
        by_cases hn : x.1.size ≤ 70
        · have hnI : ¬ (x.1.size : Int) > 70 := by omega
          go_wp2_with fail
          refine HSR.out.mono ?_
          rintro e w' ⟨b, rfl, hb, hw⟩
          subst hw
          cases b with
          | true =>
            have HN := Lib.hid (all_take (fun n : Nde => n.1.size ≤ 70 ∧ SmallR7 n.2) l k x HXK.out HS.out ⟨hn, hb rfl⟩)
            clear hb
            go_wp2
            go_roundw
            case rel => exact ⟨k + 1, by omega, by go_num, HN, Lib.hid (by first | rfl | trivial)⟩
            case measure => simp [intOf]; omega
          | false =>
            clear hb
            go_wp2
            go_ret
            exact ⟨_, rfl, (fun h => by cases h), rfl⟩
        · have hnI : (x.1.size : Int) > 70 := by omega
          go_wp2
          go_ret
          exact ⟨_, rfl, (fun h => by cases h), rfl⟩
      · have hke : k = l.length := by omega
        subst hke
        have hltI : ¬ (l.length : Int) < (l.length : Int) := by omega
        have HN := Lib.hid (show SmallN l from ⟨hl, by have := HS.out; rwa [List.take_length] at this⟩)
        go_wp2
        go_ret
        exact ⟨true, rfl, fun _ => HN.out, rfl⟩
  · have hlI : (l.length : Int) > 70 := by omega
    go_enter Tryz.func21, Tryz.ntmps21
    go_wp2
    go_ret
    exact ⟨_, rfl, (fun h => by cases h), rfl⟩
def SmallV (x : Va) : Prop := x.name.size ≤ 200 ∧ x.ver.size ≤ 200 ∧ x.recipe.size ≤ 500 ∧ SmallN x.needs ∧ SmallN x.confs
def SmallL (l : List Va) : Prop := l.length ≤ 30 ∧ ∀ x ∈ l, SmallV x
def SmallLPost (l : List Va) (w : World) (e : Ending) (w' : World) : Prop := ∃ b, e = .returned (.bool b) ∧ (b = true → SmallL l) ∧ Below w.heap.size w w'
set_option maxRecDepth 100000 in
set_option maxHeartbeats 2000000 in
theorem smallL_any (a : Value) (l : List Va) (w : World) (ha : VasAt w a l) :
    Calls Tryz.prog 10 #[a, .int .i64 30, .int .i64 70] w (SmallLPost l w) := by
  obtain ⟨A, ca, rfl, hla, hma⟩ := OutM.form ha
  unfold maxLen at hma
  have HA := Lib.hid ha
  clear ha
  by_cases hl : l.length ≤ 30
  · have hlI : ¬ (l.length : Int) > 30 := by omega
    go_enter Tryz.func10, Tryz.ntmps10
    go_wp2
    go_loopw [7] (fun i wr => ∃ (k : Nat), k ≤ l.length ∧ i = .int .i64 (k : Int) ∧ Hid (∀ x ∈ l.take k, SmallV x) ∧ Hid (Below w.heap.size w wr)) (fun i _ => l.length - (intOf i).toNat)
    case atStart => exact ⟨0, by omega, rfl, Lib.hid (by simp), Lib.hid (Below.refl _ _)⟩
    case round =>
      obtain ⟨k, hk, rfl, HS, HB⟩ := hrel
      by_cases hlt : k < l.length
      · have hltI : (k : Int) < (l.length : Int) := by omega
        have hk0 : (0 : Int) ≤ (k : Int) := by omega
        obtain ⟨ad, An, cn, Ac, cc, rfl, _, g0, g1, g2, g3, g4, hn, hc⟩ := VasAt.get (VasAt.below HA.out HB.out) k hlt
        obtain ⟨x, hx⟩ : ∃ x, x = l.getD k default := ⟨_, rfl⟩
        rw [← hx] at g0 g1 g2 g3 g4 hn hc
        have HXK := Lib.hid (show l[k]? = some x by rw [hx]; exact getD_get l k _ hlt)
        have HNN := Lib.hid hn
        have HCC := Lib.hid hc
        clear hx hn hc
        go_upto_region 7 with (fail)
        obtain ⟨W1, hW1, hg1, hq1, hz1, hB1⟩ := row_at w wr (.cells #[.string x.name, .string x.ver, .slice An x.needs.length cn, .slice Ac x.confs.length cc, .string x.recipe] 53) HB.out
        rw [← hW1]
        have e0 : W1.cell? ⟨wr.heap.size, 0, none⟩ = some (.string x.name) := by rw [cell_of_row _ _ _ _ _ _ hg1]; rfl
        have e1 : W1.cell? ⟨wr.heap.size, 1, none⟩ = some (.string x.ver) := by rw [cell_of_row _ _ _ _ _ _ hg1]; rfl
        have e2 : W1.cell? ⟨wr.heap.size, 2, none⟩ = some (.slice An x.needs.length cn) := by rw [cell_of_row _ _ _ _ _ _ hg1]; rfl
        have e3 : W1.cell? ⟨wr.heap.size, 3, none⟩ = some (.slice Ac x.confs.length cc) := by rw [cell_of_row _ _ _ _ _ _ hg1]; rfl
        have e4 : W1.cell? ⟨wr.heap.size, 4, none⟩ = some (.string x.recipe) := by rw [cell_of_row _ _ _ _ _ _ hg1]; rfl
        have HSN := Lib.hid (smallN_any _ _ W1 (NdsAt.below HNN.out hq1))
        have HSC := Lib.hid (smallN_any _ _ W1 (NdsAt.below HCC.out hq1))
        have HB1 := Lib.hid hB1
        clear hW1 hg1 hq1 hz1 hB1 g0 g1 g2 g3 g4
        by_cases hn : x.name.size ≤ 200
        · have hnI : ¬ (x.name.size : Int) > 200 := by omega
          by_cases hv : x.ver.size ≤ 200
          · have hvI : ¬ (x.ver.size : Int) > 200 := by omega
            by_cases hr : x.recipe.size ≤ 500
            · have hrI : ¬ (x.recipe.size : Int) > 500 := by omega
              go_wp2_with fail
              refine HSN.out.mono ?_
              rintro e w' ⟨b, rfl, hb, hw⟩
              subst hw
              cases b with
              | true =>
                have HSMN := Lib.hid (hb rfl)
                clear hb
                go_wp2_with fail
                refine HSC.out.mono ?_
                rintro e w' ⟨b, rfl, hb, hw⟩
                subst hw
                cases b with
                | true =>
                  have HN := Lib.hid (all_take SmallV l k x HXK.out HS.out ⟨hn, hv, hr, HSMN.out, hb rfl⟩)
                  clear hb
                  go_wp2
                  go_roundw
                  case rel => exact ⟨k + 1, by omega, by go_num, HN, HB1⟩
                  case measure => simp [intOf]; omega
                | false =>
                  clear hb
                  go_wp2
                  go_ret
                  exact ⟨_, rfl, (fun h => by cases h), HB1.out⟩
              | false =>
                clear hb
                go_wp2
                go_ret
                exact ⟨_, rfl, (fun h => by cases h), HB1.out⟩
            · have hrI : (x.recipe.size : Int) > 500 := by omega
              go_wp2
              go_ret
              exact ⟨_, rfl, (fun h => by cases h), HB1.out⟩
          · have hvI : (x.ver.size : Int) > 200 := by omega
            go_wp2
            go_ret
            exact ⟨_, rfl, (fun h => by cases h), HB1.out⟩
        · have hnI : (x.name.size : Int) > 200 := by omega
          go_wp2
          go_ret
          exact ⟨_, rfl, (fun h => by cases h), HB1.out⟩
      · have hke : k = l.length := by omega
        subst hke
        have hltI : ¬ (l.length : Int) < (l.length : Int) := by omega
        have HN := Lib.hid (show SmallL l from ⟨hl, by have := HS.out; rwa [List.take_length] at this⟩)
        go_wp2
        go_ret
        exact ⟨true, rfl, fun _ => HN.out, HB.out⟩
  · have hlI : (l.length : Int) > 30 := by omega
    go_enter Tryz.func10, Tryz.ntmps10
    go_wp2
    go_ret
    exact ⟨_, rfl, (fun h => by cases h), Below.refl _ _⟩
end Go.Proofs.YtcnedecmmplmoaaGreatDoor
