/- The walk of the law FilesName. -/
import Derived.Test.YtmcafiihicanfaaDoorFilQf
import Derived.Test.YtmcafiihicanfaaDoorRows
import Derived.Test.YtmcafiihicanfaaDoorTie
import Derived.LaidMore
import Derived.Test.YtmcafiihicanfaaDoorFilA
import Derived.Lib.SmallJoins
import Derived.Deep.SlicePairs
set_option linter.unusedVariables false
set_option linter.unusedSimpArgs false
namespace Go.Proofs.YtmcafiihicanfaaDoor
open Go Go.RowKit Go.BigFrame
open Fil (Es Nd Sp)

def laidL : List (String × DataW Unit) := [("unicode/utf8.acceptRanges", Rows.laid_unicode_utf8_acceptRanges), ("unicode/utf8.first", Rows.laid_unicode_utf8_first)]
theorem of_laid {W : World} (_ : laidMetH Tryd.prog laidL W) : True := trivial
set_option maxRecDepth 1000000 in
set_option maxRecDepth 100000 in
set_option maxHeartbeats 4000000 in
theorem filesName_walk (s : ByteArray) (w : World) (_ : True) (hs : s.size ≤ maxLen) : Calls Tryd.prog 3 #[.string s] w fun e w' => e = .returned (.bool true) ∧ Below w.heap.size w w' := by
  unfold maxLen at hs
  have HW := Lib.hid works_any
  have HN := Lib.hid (name_any s w)
  have HM := Lib.hid (fun w' => refName_any s (by unfold maxLen; omega) w')
  go_enter Tryd.func3, Tryd.ntmps3
  by_cases hl : s.size ≤ 2000
  · have hlI : decide ((2000 : Int) < (s.size : Int)) = false := decide_eq_false (by omega)
    have HL := Lib.hid hl
    clear hl
    go_wp2_with fail
    refine HN.out.mono ?_
    rintro e W1 ⟨rfl, hb1⟩
    have HB1 := Lib.hid hb1
    clear hb1
    go_wp2_with fail
    refine (HM.out W1).mono ?_
    intro e W2 h
    obtain ⟨h1, h2⟩ := h
    have h3 := h2.symm
    subst h3
    subst h1
    generalize Fil.nameB s = b at *
    have hbb : (b == b) = true := by cases b <;> rfl
    go_wp2_with fail
    refine (HW.out W1).mono ?_
    rintro e W3 ⟨rfl, hb3⟩
    have HB3 := Lib.hid (below_step HB1.out hb3 HB1.out.size)
    clear hb3
    go_wp2_with fail
    go_ret
    exact ⟨rfl, HB3.out⟩
  · have hlI : decide ((2000 : Int) < (s.size : Int)) = true := decide_eq_true (by omega)
    clear hl
    go_wp2_with fail
    refine (HW.out w).mono ?_
    rintro e W3 ⟨rfl, hb3⟩
    have HB3 := Lib.hid hb3
    clear hb3
    go_wp2_with fail
    go_ret
    exact ⟨rfl, HB3.out⟩
end Go.Proofs.YtmcafiihicanfaaDoor

/- files: trees that come in. -/
namespace Go.Proofs.YtmcafiihicanfaaDoor
open Go Go.ChangeShapes Go.WideShapes Go.ChangeAt Go.RowKit Go.BigFrame
open Fil (Es Nd Sp)

theorem cellsEnt4 : Tryd.prog.cellsOf 48 = 4 := by kernel_rfl
theorem cellsNd3 : Tryd.prog.cellsOf 26 = 3 := by kernel_rfl
theorem structEnt : ∃ f0 f1, Tryd.prog.underlying 48 = some (.struct #[f0, f1]) ∧ f0.type = 9 ∧ f1.type = 26 ∧ f0.offset = 0 ∧ f1.offset = 1 :=
  ⟨_, _, Tryd.underlying48, rfl, rfl, rfl, rfl⟩
theorem structNd : ∃ f0 f1 f2, Tryd.prog.underlying 26 = some (.struct #[f0, f1, f2]) ∧ f0.type = 5 ∧ f1.type = 9 ∧ f2.type = 24 ∧ f0.offset = 0 ∧ f1.offset = 1 ∧ f2.offset = 2 ∧ Go.Deep.oneCellFields Tryd.prog #[f0, f1, f2] = true :=
  ⟨_, _, _, Tryd.underlying26, rfl, rfl, rfl, rfl, rfl, rfl, by kernel_rfl⟩
theorem cellsU8F : Tryd.prog.cellsOf 5 = 1 := by kernel_rfl
theorem cellsStrF : Tryd.prog.cellsOf 9 = 1 := by kernel_rfl
theorem cellsEsF : Tryd.prog.cellsOf 24 = 1 := by kernel_rfl
theorem u8_wf {k : Int} (h : (Lit.int .u8 k).wf = true) : 0 ≤ k ∧ k < 256 := by
  have h2 : IntKind.u8.min ≤ k ∧ k ≤ IntKind.u8.max := by simpa [Lit.wf] using h
  rw [show IntKind.u8.min = 0 from rfl, show IntKind.u8.max = 255 from rfl] at h2
  omega
/-- Entries, one after the other from the last one on. -/
theorem build_es {w : World} {B : Nat} {a : Addr} {len : Nat} (h : ∀ i, i < len → ∃ (nm : ByteArray) (k : Nat) (d : ByteArray) (sv : Value) (s : Es), w.cell? (a.add (i * 4)) = some (.string nm) ∧ w.cell? (a.add (i * 4 + 1)) = some (.int .u8 (k : Int)) ∧ w.cell? (a.add (i * 4 + 2)) = some (.string d) ∧ w.cell? (a.add (i * 4 + 3)) = some sv ∧ nm.size ≤ maxLen ∧ d.size ≤ maxLen ∧ k < 256 ∧ EsAt w B sv s) :
    ∀ j, j ≤ len → ∃ es : Es, es.len = j ∧ CellsAt w B es (a.add ((len - j) * 4))
  | 0, _ => ⟨.nil, rfl, trivial⟩
  | j + 1, hj => by
    obtain ⟨es, hl, hc⟩ := build_es h j (by omega)
    obtain ⟨nm, k, d, sv, s, h0, h1, h2, h3, h4, h5, h6, A, cap, rfl, h7⟩ := h (len - (j + 1)) (by omega)
    refine ⟨.cons nm k d s es, by simp [Es.len, hl], h0, ?_, ?_, h4, h5, h6, ⟨A, cap, ?_, h7⟩, ?_⟩
    · rw [add_two]; exact h1
    · rw [add_two]; exact h2
    · rw [add_two]; exact h3
    · rw [add_two, show (len - (j + 1)) * 4 + 4 = (len - j) * 4 by omega]
      exact hc
set_option maxRecDepth 100000 in
theorem trod_es {H : Type} {enc : TypeId × Value → H} {w : World} {base : Nat} {sp : Nat → Bool} {held : Bool} : ∀ (fuel : Nat) {v : Value} {x : DataW H × List MemPlace},
    DataW.trod enc Tryd.prog w base sp held fuel 24 [v] = some x → ∃ es : Es, EsAt w w.heap.size v es := by
  intro fuel
  induction fuel using Nat.strongRecOn with
  | ind fuel ih =>
    intro v x hf
    rcases DataW.trod_slice Tryd.underlying24 hf with ⟨hcs, _⟩ | ⟨a, len, cap, elems, rest, n, hfu, hcs, _, _, hl, hm, hlen, hel, _, _⟩
    · have hv : v = .slice none 0 0 := by simpa using hcs
      subst hv
      exact ⟨.nil, EsAt.nil _ _⟩
    · have hv : v = .slice (some a) len cap := by simpa using hcs
      subst hv
      rw [cellsEnt4] at hel
      have hent : ∀ i, i < len → ∃ (nm : ByteArray) (k : Nat) (d : ByteArray) (sv : Value) (s : Es), w.cell? (a.add (i * 4)) = some (.string nm) ∧ w.cell? (a.add (i * 4 + 1)) = some (.int .u8 (k : Int)) ∧ w.cell? (a.add (i * 4 + 2)) = some (.string d) ∧ w.cell? (a.add (i * 4 + 3)) = some sv ∧ nm.size ≤ maxLen ∧ d.size ≤ maxLen ∧ k < 256 ∧ EsAt w w.heap.size sv s := by
        intro i hi
        have he := hel i hi
        rw [List.getElem?_eq_getElem (by omega)] at he
        rw [Option.bind_eq_some_iff] at he
        obtain ⟨cs, hcs, he⟩ := he
        obtain ⟨_, hl4, hcl⟩ := World.cells?_some hcs
        obtain ⟨f0, f1, hS, t0, t1, o0, o1⟩ := structEnt
        obtain ⟨xs, m, hm1, _, _, hxl, hxs⟩ := DataW.trod_struct hS he
        match cs, hl4 with
        | [c0, c1, c2, c3], _ =>
          have g0 := hcl 0 (by omega)
          have g1 := hcl 1 (by omega)
          have g2 := hcl 2 (by omega)
          have g3 := hcl 3 (by omega)
          rw [add_two] at g0 g1 g2 g3
          simp only [List.getElem?_cons_zero, List.getElem?_cons_succ, Nat.add_zero] at g0 g1 g2 g3
          have e0 := hxs 0 f0 rfl
          have e1 := hxs 1 f1 rfl
          rw [t0, o0, cellsStrF, List.getElem?_eq_getElem (by simp [hxl])] at e0
          rw [t1, o1, cellsNd3, List.getElem?_eq_getElem (by simp [hxl])] at e1
          obtain ⟨nm, q0, _, z0⟩ := DataW.trod_string Tryd.underlying9 e0
          obtain ⟨n0, n1, n2, hN, u0, u1, u2, p0, p1, p2, _⟩ := structNd
          obtain ⟨ys, m2, hm2, _, _, hyl, hys⟩ := DataW.trod_struct hN e1
          have r0 := hys 0 n0 rfl
          have r1 := hys 1 n1 rfl
          have r2 := hys 2 n2 rfl
          rw [u0, p0, cellsU8F, List.getElem?_eq_getElem (by simp [hyl])] at r0
          rw [u1, p1, cellsStrF, List.getElem?_eq_getElem (by simp [hyl])] at r1
          rw [u2, p2, cellsEsF, List.getElem?_eq_getElem (by simp [hyl])] at r2
          obtain ⟨k, qk, _, zk⟩ := DataW.trod_int Tryd.underlying5 r0
          obtain ⟨d, qd, _, zd⟩ := DataW.trod_string Tryd.underlying9 r1
          obtain ⟨s, hs⟩ := ih m2 (by omega) (v := c3) r2
          have hk := u8_wf zk
          obtain rfl : c0 = .string nm := by simpa using q0
          obtain rfl : c1 = .int .u8 k := by simpa using qk
          obtain rfl : c2 = .string d := by simpa using qd
          refine ⟨nm, k.toNat, d, c3, s, g0, ?_, g2, g3, z0, zd, by omega, hs⟩
          rw [Int.toNat_of_nonneg hk.1]
          exact g1
      obtain ⟨es, hlen2, hc⟩ := build_es hent len (Nat.le_refl _)
      subst hlen2
      refine ⟨es, some a, cap, rfl, hl, hm, (fun h => by cases h), fun hp => ⟨a, rfl, ?_, ?_⟩⟩
      · obtain ⟨_, _, _, _, _, h0, _⟩ := hent 0 hp
        have := World.block_lt_of_cell? w _ h0
        rwa [add_block] at this
      · simpa [add_zero] using hc
set_option maxRecDepth 100000 in
theorem open_node {H : Type} {enc : TypeId × Value → H} {w : World} {base : Nat} {sp : Nat → Bool} {held : Bool} {r : Reach} {b0 : Nat} {v : Value} {y : DataW H} {ps : List MemPlace} (_lt : ∀ x ∈ ps, x.block < w.heap.size)
    (hval : Value.okWide Tryd.prog w r b0 26 v) (hd : DataW.Trod enc Tryd.prog w base sp held 26 v y ps) :
    ∃ (a : Value) (nd : Nd), NdV w w.heap.size a nd ∧ a = v := by
  obtain ⟨f0, f1, f2, hS, t0, t1, t2, _, _, _, ho⟩ := structNd
  obtain ⟨v0, v1, v2, y0, y1, y2, n, rfl, _, _, h0, h1, h2⟩ := Joins.open_agg3 hS ho cellsNd3 hval hd
  rw [t0] at h0
  rw [t1] at h1
  rw [t2] at h2
  obtain ⟨k, qk, _, zk⟩ := DataW.trod_int Tryd.underlying5 h0
  obtain ⟨d, qd, _, zd⟩ := DataW.trod_string Tryd.underlying9 h1
  obtain ⟨es, hes⟩ := trod_es n h2
  have hk := u8_wf zk
  obtain rfl : v0 = .int .u8 k := by simpa using qk
  obtain rfl : v1 = .string d := by simpa using qd
  refine ⟨_, ⟨k.toNat, d, es⟩, ⟨v2, ?_, hes, zd, by show k.toNat < 256; omega⟩, rfl⟩
  show (Value.agg #[.int .u8 k, .string d, v2]) = .agg #[.int .u8 (k.toNat : Int), .string d, v2]
  rw [Int.toNat_of_nonneg hk.1]
end Go.Proofs.YtmcafiihicanfaaDoor
