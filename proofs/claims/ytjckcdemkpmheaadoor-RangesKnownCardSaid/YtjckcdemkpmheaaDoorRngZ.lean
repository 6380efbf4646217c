/- Contract of SmallRange. -/
import Derived.Test.YtjckcdemkpmheaaDoorRngY
namespace Go.Proofs.YtjckcdemkpmheaaDoor
open Go.RowKit Go.BigFrame
open Ver (cmpV BL parts)

def SmallRow (row : List Bd) : Prop := row.length ≤ 1000 ∧ ∀ b ∈ row, b.2.size ≤ 1000
def SmallR (r : List (List Bd)) : Prop := r.length ≤ 1000 ∧ ∀ row ∈ r, SmallRow row
theorem all_take {α : Type} (P : α → Prop) (l : List α) (k : Nat) (x : α) (hk : l[k]? = some x) (h : ∀ y ∈ l.take k, P y) (hx : P x) : ∀ y ∈ l.take (k + 1), P y := by
  rw [take_next l k x hk]
  intro y hy
  rcases List.mem_append.1 hy with h1 | h1
  · exact h y h1
  · rw [List.mem_singleton.1 h1]; exact hx
def SmallPost (r : List (List Bd)) (w : World) (e : Ending) (w' : World) : Prop := ∃ b, e = .returned (.bool b) ∧ (b = true → SmallR r) ∧ w' = w
set_option maxRecDepth 100000 in
set_option maxHeartbeats 2000000 in
theorem smallR_any (a : Value) (r : List (List Bd)) (w : World) (ha : RngAt w a r) :
    Calls Tryd.prog 13 #[a, .int .i64 1000] w (SmallPost r w) := by
  obtain ⟨A, ca, rfl, hla, hma⟩ := ha.form
  unfold maxLen at hma
  have HA := Lib.hid ha
  clear ha
  by_cases hl : r.length ≤ 1000
  · have hlI : ¬ (r.length : Int) > 1000 := by omega
    go_enter Tryd.func13, Tryd.ntmps13
    go_wp2
    go_loopw [5, 6] (fun nv i wr => ∃ (k n : Nat), k ≤ r.length ∧ n ≤ 1000 ∧ nv = .int .i64 (n : Int) ∧ i = .int .i64 (k : Int) ∧ Hid (∀ row ∈ r.take k, SmallRow row) ∧ Hid (wr = w)) (fun _ i _ => r.length - (intOf i).toNat)
    case atStart => exact ⟨0, 0, by omega, by omega, rfl, rfl, Lib.hid (by simp), Lib.hid (by first | rfl | trivial)⟩
    case round =>
      obtain ⟨k, n, hk, hn, rfl, rfl, HS, HW⟩ := hrel
      have hwr := HW.out
      subst hwr
      clear HW
      by_cases hlt : k < r.length
      · have hltI : (k : Int) < (r.length : Int) := by omega
        have hk0 : (0 : Int) ≤ (k : Int) := by omega
        obtain ⟨ad, u, rfl, hc, hrow⟩ := HA.out.get k hlt
        obtain ⟨row, hrw⟩ : ∃ row, row = r.getD k default := ⟨_, rfl⟩
        rw [← hrw] at hrow
        have HRK := Lib.hid (show r[k]? = some row by rw [hrw]; exact getD_get r k _ hlt)
        obtain ⟨A2, cap2, rfl, hcl2, hcm2⟩ := RdS.form hrow
        have HROW := Lib.hid hrow
        clear hrow hrw
        unfold maxLen at hcm2
        have hsub : IntKind.i64.wrap ((1000 : Int) - (n : Int)) = (1000 : Int) - (n : Int) := IntWalk.i64_in _ (by omega)
        by_cases hrl : row.length ≤ 1000 - n
        · have hrI : ¬ (row.length : Int) > (1000 : Int) - (n : Int) := by omega
          have hadd : IntKind.i64.wrap ((n : Int) + (row.length : Int)) = (n : Int) + (row.length : Int) := IntWalk.i64_in _ (by omega)
          go_wp2
          clear hsub hadd hrI
          obtain ⟨n0, hn0⟩ : ∃ n0 : Nat, n0 = n + row.length := ⟨_, rfl⟩
          have hn0l : n0 ≤ 1000 := by omega
          rw [show (n : Int) + (row.length : Int) = (n0 : Int) by omega]
          go_loopw [5, 7] (fun nv j wq => ∃ (m n2 : Nat), m ≤ row.length ∧ n2 ≤ 1000 ∧ nv = .int .i64 (n2 : Int) ∧ j = .int .i64 (m : Int) ∧ Hid (∀ b ∈ row.take m, b.2.size ≤ 1000) ∧ Hid (wq = wr)) (fun _ j _ => row.length - (intOf j).toNat)
          case atStart => exact ⟨0, n0, by omega, hn0l, rfl, rfl, Lib.hid (by simp), Lib.hid (by first | rfl | trivial)⟩
          case round =>
            obtain ⟨m, n2, hm, hn2, rfl, rfl, HT, HW2⟩ := hrel
            have hwq := HW2.out
            subst hwq
            clear HW2
            by_cases hmt : m < row.length
            · have hmtI : (m : Int) < (row.length : Int) := by omega
              have hm0 : (0 : Int) ≤ (m : Int) := by omega
              obtain ⟨ad2, rfl, hbc⟩ := BRow.get HROW.out m hmt
              obtain ⟨b, hbb⟩ : ∃ b, b = row.getD m default := ⟨_, rfl⟩
              rw [← hbb] at hbc
              have HBK := Lib.hid (show row[m]? = some b by rw [hbb]; exact getD_get row m _ hmt)
              clear hbb
              have hb1 : wr.cell? ⟨(ad2.add (m * 2)).block, (ad2.add (m * 2)).off + 1, none⟩ = some (.string b.2) := hbc 1 _ rfl
              clear hbc
              have hsub : IntKind.i64.wrap ((1000 : Int) - (n2 : Int)) = (1000 : Int) - (n2 : Int) := IntWalk.i64_in _ (by omega)
              by_cases hvl : b.2.size ≤ 1000 - n2
              · have hvI : ¬ (b.2.size : Int) > (1000 : Int) - (n2 : Int) := by omega
                have hadd : IntKind.i64.wrap ((n2 : Int) + (b.2.size : Int)) = (n2 : Int) + (b.2.size : Int) := IntWalk.i64_in _ (by omega)
                have HN := Lib.hid (all_take (fun b : Bd => b.2.size ≤ 1000) row m b HBK.out HT.out (by omega))
                go_wp2
                go_roundw
                case rel => exact ⟨m + 1, n2 + b.2.size, by omega, by omega, by rw [Int.natCast_add], by go_num, HN, Lib.hid (by first | rfl | trivial)⟩
                case measure => simp [intOf]; omega
              · have hvI : (b.2.size : Int) > (1000 : Int) - (n2 : Int) := by omega
                go_wp2
                go_ret
                exact ⟨_, rfl, (fun h => by cases h), rfl⟩
            · have hmtI : ¬ (m : Int) < (row.length : Int) := by omega
              have HN := Lib.hid (all_take SmallRow r k row HRK.out HS.out ⟨by omega, by have := HT.out; rwa [show m = row.length by omega, List.take_length] at this⟩)
              go_wp2
              go_roundw
              case rel => exact ⟨k + 1, n2, by omega, by omega, rfl, by go_num, HN, Lib.hid (by first | rfl | trivial)⟩
              case measure => simp [intOf]; omega
        · have hrI : (row.length : Int) > (1000 : Int) - (n : Int) := by omega
          go_wp2
          go_ret
          exact ⟨_, rfl, (fun h => by cases h), rfl⟩
      · have hke : k = r.length := by omega
        subst hke
        have hltI : ¬ (r.length : Int) < (r.length : Int) := by omega
        have HN := Lib.hid (show SmallR r from ⟨hl, by have := HS.out; rwa [List.take_length] at this⟩)
        go_wp2
        go_ret
        exact ⟨true, rfl, fun _ => HN.out, rfl⟩
  · have hlI : (r.length : Int) > 1000 := by omega
    go_enter Tryd.func13, Tryd.ntmps13
    go_wp2
    go_ret
    exact ⟨_, rfl, (fun h => by cases h), rfl⟩
theorem SmallR.short {r : List (List Bd)} (h : SmallR r) : Short r := fun row hr b hb => Nat.le_trans ((h.2 row hr).2 b hb) (by omega)
end Go.Proofs.YtjckcdemkpmheaaDoor
