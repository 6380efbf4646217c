/- Contract of the reference's Best. -/
import Derived.Test.YtcnedecmmplmoaaGreatDoorCm18
import Derived.Laws.StructEq
import Derived.Deep.SlicePairs
import Derived.Deep.Strs
import Derived.DataReads
set_option linter.unusedVariables false
set_option linter.unusedSimpArgs false
namespace Go.Proofs.YtcnedecmmplmoaaGreatDoor
open Go.RowKit Go.BigFrame
open Ver (cmpV BL parts)

def bestQ (r : List (List Bd)) (l : List ByteArray) (k : Nat) : Int := if mayR r = true then bestN r l k else -1
theorem bestQ_range (r : List (List Bd)) (l : List ByteArray) (k : Nat) : bestQ r l k = -1 ∨ ∃ j : Nat, j < k ∧ bestQ r l k = (j : Int) := by
  unfold bestQ
  split
  · exact bestN_range r l k
  · exact .inl rfl
theorem bestQ_next (r : List (List Bd)) (l : List ByteArray) (k : Nat) : bestQ r l (k + 1) = if allowR r (l.getD k ⟨#[]⟩) = true then (if 0 ≤ bestQ r l k ∧ cmpS (l.getD k ⟨#[]⟩) (l.getD (bestQ r l k).toNat ⟨#[]⟩) ≤ 0 then bestQ r l k else (k : Int)) else bestQ r l k := by
  unfold bestQ allowR
  cases mayR r
  · simp
  · simp only [if_true, Bool.true_and]
    rfl
theorem bestQ_end (r : List (List Bd)) (l : List ByteArray) : bestQ r l l.length = bestR r l := rfl
end Go.Proofs.YtcnedecmmplmoaaGreatDoor

/- Contracts of SameRange. -/
namespace Go.Proofs.YtcnedecmmplmoaaGreatDoor
open Go.RowKit Go.BigFrame
open Ver (cmpV BL parts)

theorem bd_fields : (Tryz.prog.fieldsOf 57).toList.map (fun f => (f.name != "_", f.type, f.offset)) = [(true, 5, 0), (true, 9, 1)] := by kernel_rfl
theorem eq_bd (o o2 : Nat) (tx tx2 : ByteArray) (wx : World) : (Op.equalIn 10000 57 (.agg #[.int .u8 (o : Int), .string tx]) (.agg #[.int .u8 (o2 : Int), .string tx2])).run Tryz.prog wx = .ok ((((o : Int) == (o2 : Int)) && (tx.toList == tx2.toList))) wx := by
  rw [run_equalIn_struct wx 9999 57 _ _ (by kernel_rfl) (by kernel_rfl)]
  have hf := bd_fields
  generalize (Tryz.prog.fieldsOf 57).toList = fs at hf
  obtain ⟨f, g, rfl⟩ : ∃ f g, fs = [f, g] := by
    cases fs with
    | nil => simp at hf
    | cons f fs =>
      cases fs with
      | nil => simp at hf
      | cons g fs =>
        cases fs with
        | nil => exact ⟨f, g, rfl⟩
        | cons h fs => simp at hf
  simp only [List.map_cons, List.map_nil, List.cons.injEq, Prod.mk.injEq, and_true] at hf
  obtain ⟨⟨h1, h2, h3⟩, h4, h5, h6⟩ := hf
  have n1 : f.name ≠ "_" := by simpa using h1
  have n2 : g.name ≠ "_" := by simpa using h4
  have p1 : (part (5 : TypeId) #[.int .u8 (o : Int), .string tx] 0).run Tryz.prog wx = .ok (.int .u8 (o : Int)) wx := run_part_plain wx (by kernel_rfl) rfl
  have p2 : (part (5 : TypeId) #[.int .u8 (o2 : Int), .string tx2] 0).run Tryz.prog wx = .ok (.int .u8 (o2 : Int)) wx := run_part_plain wx (by kernel_rfl) rfl
  have p3 : (part (9 : TypeId) #[.int .u8 (o : Int), .string tx] 1).run Tryz.prog wx = .ok (.string tx) wx := run_part_plain wx (by kernel_rfl) rfl
  have p4 : (part (9 : TypeId) #[.int .u8 (o2 : Int), .string tx2] 1).run Tryz.prog wx = .ok (.string tx2) wx := run_part_plain wx (by kernel_rfl) rfl
  simp only [Op.eqFields, h2, h3, h5, h6, n1, n2, ne_eq, not_false_eq_true, if_true, Sem.run_bind, p1, p2, p3, p4, Result.andThen_ok, run_equalIn_int wx 9998 5 .u8 .u8 _ _ Tryz.underlying5, run_equalIn_string wx 9998 9 _ _ Tryz.underlying9, Sem.run_ite, Sem.run_pure]
  cases ((o : Int) == (o2 : Int)) <;> cases (tx.toList == tx2.toList) <;> rfl
theorem eq_bd_is (o o2 : Nat) (tx tx2 : ByteArray) : (((o : Int) == (o2 : Int)) && (tx.toList == tx2.toList)) = decide (((o, tx) : Bd) = (o2, tx2)) := by
  rw [str_ne_iff, Bool.eq_iff_iff]
  simp only [Bool.and_eq_true, beq_iff_eq, decide_eq_true_eq, Prod.mk.injEq]
  constructor
  · rintro ⟨h1, h2⟩; exact ⟨by omega, h2⟩
  · rintro ⟨h1, h2⟩; exact ⟨by omega, h2⟩
theorem RngAt.drewN {w w' : World} {n : Nat} {v : Value} {r : List (List Bd)} (h : RngAt w v r) (e : w' = w.drewN n) : RngAt w' v r := by
  subst e; exact h.below (below_drewN (Below.refl _ _) n)
theorem RdS.drewN {w w' : World} {n k : Nat} {S : Nat → Prop} {v : Value} {xs : List Value} (h : RdS w S v k xs) (e : w' = w.drewN n) : RdS w' S v k xs := by
  subst e; exact h.below (below_drewN (Below.refl _ _) n)
end Go.Proofs.YtcnedecmmplmoaaGreatDoor

/- Contract of SmallRange. -/
namespace Go.Proofs.YtcnedecmmplmoaaGreatDoor
open Go.RowKit Go.BigFrame
open Ver (cmpV BL parts)

def SmallRow (row : List Bd) : Prop := row.length ≤ 1000 ∧ ∀ b ∈ row, b.2.size ≤ 1000
def SmallR (r : List (List Bd)) : Prop := r.length ≤ 1000 ∧ ∀ row ∈ r, SmallRow row
theorem all_take {α : Type} (P : α → Prop) (l : List α) (k : Nat) (x : α) (hk : l[k]? = some x) (h : ∀ y ∈ l.take k, P y) (hx : P x) : ∀ y ∈ l.take (k + 1), P y := by
  rw [take_next l k x hk]
  intro y hy
  rcases List.mem_append.1 hy with h1 | h1
  · exact h y h1
  · rw [List.mem_singleton.1 h1]; exact hx
def SmallPost (r : List (List Bd)) (w : World) (e : Ending) (w' : World) : Prop := ∃ b, e = .returned (.bool b) ∧ (b = true → SmallR r) ∧ w' = w
set_option maxRecDepth 100000 in
set_option maxHeartbeats 2000000 in
theorem smallR_any (a : Value) (r : List (List Bd)) (w : World) (ha : RngAt w a r) :
    Calls Tryz.prog 47 #[a, .int .i64 1000] w (SmallPost r w) := by
  obtain ⟨A, ca, rfl, hla, hma⟩ := ha.form
  unfold maxLen at hma
  have HA := Lib.hid ha
  clear ha
  by_cases hl : r.length ≤ 1000
  · have hlI : ¬ (r.length : Int) > 1000 := by omega
    go_enter Tryz.func47, Tryz.ntmps47
    go_wp2
    go_loopw [5, 6] (fun nv i wr => ∃ (k n : Nat), k ≤ r.length ∧ n ≤ 1000 ∧ nv = .int .i64 (n : Int) ∧ i = .int .i64 (k : Int) ∧ Hid (∀ row ∈ r.take k, SmallRow row) ∧ Hid (wr = w)) (fun _ i _ => r.length - (intOf i).toNat)
    case atStart => exact ⟨0, 0, by omega, by omega, rfl, rfl, Lib.hid (by simp), Lib.hid (by first | rfl | trivial)⟩
    case round =>
      obtain ⟨k, n, hk, hn, rfl, rfl, HS, HW⟩ := hrel
      have hwr := HW.out
      subst hwr
      clear HW
      by_cases hlt : k < r.length
      · have hltI : (k : Int) < (r.length : Int) := by omega
        have hk0 : (0 : Int) ≤ (k : Int) := by omega
        obtain ⟨ad, u, rfl, hc, hrow⟩ := HA.out.get k hlt
        obtain ⟨row, hrw⟩ : ∃ row, row = r.getD k default := ⟨_, rfl⟩
        rw [← hrw] at hrow
        have HRK := Lib.hid (show r[k]? = some row by rw [hrw]; exact getD_get r k _ hlt)
        obtain ⟨A2, cap2, rfl, hcl2, hcm2⟩ := RdS.form hrow
        have HROW := Lib.hid hrow
        clear hrow hrw
        unfold maxLen at hcm2
        have hsub : IntKind.i64.wrap ((1000 : Int) - (n : Int)) = (1000 : Int) - (n : Int) := IntWalk.i64_in _ (by omega)
        by_cases hrl : row.length ≤ 1000 - n
        · have hrI : ¬ (row.length : Int) > (1000 : Int) - (n : Int) := by omega
          have hadd : IntKind.i64.wrap ((n : Int) + (row.length : Int)) = (n : Int) + (row.length : Int) := IntWalk.i64_in _ (by omega)
          go_wp2
          clear hsub hadd hrI
          obtain ⟨n0, hn0⟩ : ∃ n0 : Nat, n0 = n + row.length := ⟨_, rfl⟩
          have hn0l : n0 ≤ 1000 := by omega
          rw [show (n : Int) + (row.length : Int) = (n0 : Int) by omega]
          go_loopw [5, 7] (fun nv j wq => ∃ (m n2 : Nat), m ≤ row.length ∧ n2 ≤ 1000 ∧ nv = .int .i64 (n2 : Int) ∧ j = .int .i64 (m : Int) ∧ Hid (∀ b ∈ row.take m, b.2.size ≤ 1000) ∧ Hid (wq = wr)) (fun _ j _ => row.length - (intOf j).toNat)
          case atStart => exact ⟨0, n0, by omega, hn0l, rfl, rfl, Lib.hid (by simp), Lib.hid (by first | rfl | trivial)⟩
          case round =>
            obtain ⟨m, n2, hm, hn2, rfl, rfl, HT, HW2⟩ := hrel
            have hwq := HW2.out
            subst hwq
            clear HW2
            by_cases hmt : m < row.length
            · have hmtI : (m : Int) < (row.length : Int) := by omega
              have hm0 : (0 : Int) ≤ (m : Int) := by omega
              obtain ⟨ad2, rfl, hbc⟩ := BRow.get HROW.out m hmt
              obtain ⟨b, hbb⟩ : ∃ b, b = row.getD m default := ⟨_, rfl⟩
              rw [← hbb] at hbc
              have HBK := Lib.hid (show row[m]? = some b by rw [hbb]; exact getD_get row m _ hmt)
              clear hbb
              have hb1 : wr.cell? ⟨(ad2.add (m * 2)).block, (ad2.add (m * 2)).off + 1, none⟩ = some (.string b.2) := hbc 1 _ rfl
              clear hbc
              have hsub : IntKind.i64.wrap ((1000 : Int) - (n2 : Int)) = (1000 : Int) - (n2 : Int) := IntWalk.i64_in _ (by omega)
              by_cases hvl : b.2.size ≤ 1000 - n2
              · have hvI : ¬ (b.2.size : Int) > (1000 : Int) - (n2 : Int) := by omega
                have hadd : IntKind.i64.wrap ((n2 : Int) + (b.2.size : Int)) = (n2 : Int) + (b.2.size : Int) := IntWalk.i64_in _ (by omega)
                have HN := Lib.hid (all_take (fun b : Bd => b.2.size ≤ 1000) row m b HBK.out HT.out (by omega))
                go_wp2
                go_roundw
                case rel => exact ⟨m + 1, n2 + b.2.size, by omega, by omega, by rw [Int.natCast_add], by go_num, HN, Lib.hid (by first | rfl | trivial)⟩
                case measure => simp [intOf]; omega
              · have hvI : (b.2.size : Int) > (1000 : Int) - (n2 : Int) := by omega
                go_wp2
                go_ret
                exact ⟨_, rfl, (fun h => by cases h), rfl⟩
            · have hmtI : ¬ (m : Int) < (row.length : Int) := by omega
              have HN := Lib.hid (all_take SmallRow r k row HRK.out HS.out ⟨by omega, by have := HT.out; rwa [show m = row.length by omega, List.take_length] at this⟩)
              go_wp2
              go_roundw
              case rel => exact ⟨k + 1, n2, by omega, by omega, rfl, by go_num, HN, Lib.hid (by first | rfl | trivial)⟩
              case measure => simp [intOf]; omega
        · have hrI : (row.length : Int) > (1000 : Int) - (n : Int) := by omega
          go_wp2
          go_ret
          exact ⟨_, rfl, (fun h => by cases h), rfl⟩
      · have hke : k = r.length := by omega
        subst hke
        have hltI : ¬ (r.length : Int) < (r.length : Int) := by omega
        have HN := Lib.hid (show SmallR r from ⟨hl, by have := HS.out; rwa [List.take_length] at this⟩)
        go_wp2
        go_ret
        exact ⟨true, rfl, fun _ => HN.out, rfl⟩
  · have hlI : (r.length : Int) > 1000 := by omega
    go_enter Tryz.func47, Tryz.ntmps47
    go_wp2
    go_ret
    exact ⟨_, rfl, (fun h => by cases h), rfl⟩
theorem SmallR.short {r : List (List Bd)} (h : SmallR r) : Short r := fun row hr b hb => Nat.le_trans ((h.2 row hr).2 b hb) (by omega)
end Go.Proofs.YtcnedecmmplmoaaGreatDoor

/- Ranges that came in; the chapter's examples. -/
namespace Go.Proofs.YtcnedecmmplmoaaGreatDoor
open Go.ChangeShapes Go.WideShapes Go.ChangeAt Go.RowKit Go.BigFrame

theorem cellsBd : Tryz.prog.cellsOf 57 = 2 := by kernel_rfl
theorem cellsRow : Tryz.prog.cellsOf 58 = 1 := by kernel_rfl
theorem cellsU8' : Tryz.prog.cellsOf 5 = 1 := by kernel_rfl
theorem cellsStr : Tryz.prog.cellsOf 9 = 1 := by kernel_rfl
theorem structBd : ∃ f0 f1, Tryz.prog.underlying 57 = some (.struct #[f0, f1]) ∧ f0.type = 5 ∧ f1.type = 9 ∧ f0.offset = 0 ∧ f1.offset = 1 :=
  ⟨_, _, Tryz.underlying57, rfl, rfl, rfl, rfl⟩
theorem trod_row {H : Type} {enc : TypeId × Value → H} {w : World} {base : Nat} {sp : Nat → Bool} {held : Bool} {fuel : Nat} {v : Value} {x : DataW H × List MemPlace}
    (hf : DataW.trod enc Tryz.prog w base sp held fuel 58 [v] = some x) : ∃ row : List Bd, BRow w AllB v row := by
  obtain ⟨f0, f1, hS, t0, t1, o0, o1⟩ := structBd
  rcases Go.Deep.open_slice_pairs Tryz.underlying58 hS cellsBd o0 o1 (by rw [t0]; exact cellsU8') (by rw [t1]; exact cellsStr) hf with ⟨hcs, _⟩ | ⟨a, n, cap, m, k, V0, V1, D0, D1, P0, P1, hcs, _, hl, hm, hmm, _, hel⟩
  · have hv : v = .slice none 0 0 := by simpa using hcs
    subst hv
    exact ⟨[], RdS.nil w AllB⟩
  · have hv : v = .slice (some a) n cap := by simpa using hcs
    subst hv
    have hnm : n ≤ m := by rw [hmm]; split <;> omega
    have hc : ∀ i, i < n → ∃ b : Bd, w.cell? (a.add (i * 2)) = some (.int .u8 (b.1 : Int)) ∧ w.cell? (a.add (i * 2 + 1)) = some (.string b.2) := by
      intro i hi
      obtain ⟨h0, h1, h2, h3⟩ := hel i (by omega)
      rw [t0] at h2
      rw [t1] at h3
      obtain ⟨z, ez, _, hz⟩ := DataW.trod_int Tryz.underlying5 h2
      obtain ⟨s, es, _⟩ := DataW.trod_string Tryz.underlying9 h3
      have hz0 : 0 ≤ z := by
        have := hz
        have hb : 0 ≤ z ∧ z ≤ 255 := by simpa [Lit.wf, IntKind.min, IntKind.max, IntKind.signed, IntKind.bits] using this
        exact hb.1
      refine ⟨(z.toNat, s), ?_, ?_⟩
      · rw [h0]
        have : V0 i = .int .u8 z := by simpa using ez
        rw [this]
        simp [Int.toNat_of_nonneg hz0]
      · rw [h1]; simpa using es
    obtain ⟨f, hfz⟩ : ∃ f : Nat → Bd, ∀ i, i < n → w.cell? (a.add (i * 2)) = some (.int .u8 ((f i).1 : Int)) ∧ w.cell? (a.add (i * 2 + 1)) = some (.string (f i).2) := ⟨fun i => if h : i < n then Classical.choose (hc i h) else default, fun i hi => by
      have := Classical.choose_spec (hc i hi)
      simp only [hi, dif_pos]
      exact this⟩
    have hlen : ((List.range n).map f).length = n := by simp
    refine ⟨(List.range n).map f, some a, cap, by rw [hlen], by rw [hlen]; exact hl, hm, (fun h => by cases h), fun hn => ⟨a, rfl, ?_, trivial, fun j u hu => ?_⟩⟩
    · rw [hlen] at hn
      have := block_lt_of_cell (hfz 0 hn).1
      rwa [add_block] at this
    · have hj : j < n * 2 := by
        have := (List.getElem?_eq_some_iff.1 hu).1
        rwa [rowCells_len, hlen] at this
      have hi : j / 2 < n := by omega
      obtain ⟨c0, c1⟩ := hfz (j / 2) hi
      have hx : ((List.range n).map f)[j / 2]? = some (f (j / 2)) := by simp [hi]
      rcases Nat.mod_two_eq_zero_or_one j with h2 | h2
      · have e : j = j / 2 * 2 + 0 := by omega
        have := flat_get bdEnc 2 (fun _ => rfl) _ (j / 2) 0 _ hx (by omega)
        unfold rowCells at hu
        rw [e, this] at hu
        rw [e, Nat.add_zero, c0]
        simpa [bdEnc] using hu
      · have e : j = j / 2 * 2 + 1 := by omega
        have := flat_get bdEnc 2 (fun _ => rfl) _ (j / 2) 1 _ hx (by omega)
        unfold rowCells at hu
        rw [e, this] at hu
        rw [e, c1]
        simpa [bdEnc] using hu
theorem trod_range {H : Type} {enc : TypeId × Value → H} {w : World} {base : Nat} {sp : Nat → Bool} {held : Bool} {fuel : Nat} {T : TypeId} {v : Value} {x : DataW H × List MemPlace} (hT : Tryz.prog.underlying T = some (.slice 58))
    (hf : DataW.trod enc Tryz.prog w base sp held fuel T [v] = some x) : ∃ r : List (List Bd), RngAt w v r := by
  rcases Go.Deep.open_slice1 hT cellsRow hf with ⟨hcs, _⟩ | ⟨a, n, cap, m, k, V, D, Pl, hcs, _, hl, hm, hmm, _, hel⟩
  · have hv : v = .slice none 0 0 := by simpa using hcs
    subst hv
    exact ⟨[], [], RdS.nil w AllB, ItemsS.nil _ _ _⟩
  · have hv : v = .slice (some a) n cap := by simpa using hcs
    subst hv
    have hnm : n ≤ m := by rw [hmm]; split <;> omega
    have hc : ∀ i, i < n → ∃ row : List Bd, w.cell? (a.add i) = some (V i) ∧ BRow w AllB (V i) row := by
      intro i hi
      obtain ⟨h2, h3⟩ := hel i (by omega)
      obtain ⟨row, hrow⟩ := trod_row h3
      exact ⟨row, h2, hrow⟩
    obtain ⟨f, hfz⟩ : ∃ f : Nat → List Bd, ∀ i, i < n → w.cell? (a.add i) = some (V i) ∧ BRow w AllB (V i) (f i) := ⟨fun i => if h : i < n then Classical.choose (hc i h) else [], fun i hi => by
      have := Classical.choose_spec (hc i hi)
      simp only [hi, dif_pos]
      exact this⟩
    have hlen : ((List.range n).map f).length = n := by simp
    refine ⟨(List.range n).map f, (List.range n).map V, ⟨some a, cap, by rw [hlen], by rw [hlen]; exact hl, hm, (fun h => by cases h), fun hn => ⟨a, rfl, ?_, trivial, fun j u hu => ?_⟩⟩, by simp, fun j u y hu hy => ?_⟩
    · rw [hlen] at hn
      have := block_lt_of_cell (hfz 0 hn).1
      rwa [add_block] at this
    · have hj : j < n := by have := (List.getElem?_eq_some_iff.1 hu).1; simpa using this
      rw [(hfz j hj).1, ← hu]
      simp [hj]
    · have hj : j < n := by have := (List.getElem?_eq_some_iff.1 hu).1; simpa using this
      simp [hj] at hu hy
      subst hu; subst hy
      exact (hfz j hj).2
set_option maxRecDepth 100000 in
theorem open_range {H : Type} {enc : TypeId × Value → H} {w : World} {base : Nat} {sp : Nat → Bool} {held : Bool} {r : Reach} {b0 : Nat} {v : Value} {y : DataW H} {ps : List MemPlace} (_lt : ∀ x ∈ ps, x.block < w.heap.size)
    (hval : Value.okWide Tryz.prog w r b0 38 v) (hd : DataW.Trod enc Tryz.prog w base sp held 38 v y ps) :
    ∃ (a : Value) (r : List (List Bd)), RngAt w a r ∧ v = a := by
  obtain ⟨A, n, cap, rfl⟩ := okWide_slice Tryz.underlying38 hval
  obtain ⟨fuel, hf⟩ := hd
  obtain ⟨r, hR⟩ := trod_range Tryz.underlying38 hf
  exact ⟨_, r, hR, rfl⟩
end Go.Proofs.YtcnedecmmplmoaaGreatDoor
