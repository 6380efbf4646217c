/- files: trees that come in. -/
import Derived.Test.YtcleebigfbbdbaaFilA
import Derived.Lib.SmallJoins
import Derived.Deep.SlicePairs
set_option linter.unusedVariables false
set_option linter.unusedSimpArgs false
namespace Go.Proofs.Ytcleebigfbbdbaa
open Go Go.ChangeShapes Go.WideShapes Go.ChangeAt Go.RowKit Go.BigFrame
open Fil (Es Nd Sp)

theorem cellsEnt4 : Try.prog.cellsOf 42 = 4 := by kernel_rfl
theorem cellsNd3 : Try.prog.cellsOf 24 = 3 := by kernel_rfl
theorem structEnt : ∃ f0 f1, Try.prog.underlying 42 = some (.struct #[f0, f1]) ∧ f0.type = 9 ∧ f1.type = 24 ∧ f0.offset = 0 ∧ f1.offset = 1 :=
  ⟨_, _, Try.underlying42, rfl, rfl, rfl, rfl⟩
theorem structNd : ∃ f0 f1 f2, Try.prog.underlying 24 = some (.struct #[f0, f1, f2]) ∧ f0.type = 5 ∧ f1.type = 9 ∧ f2.type = 22 ∧ f0.offset = 0 ∧ f1.offset = 1 ∧ f2.offset = 2 ∧ Go.Deep.oneCellFields Try.prog #[f0, f1, f2] = true :=
  ⟨_, _, _, Try.underlying24, rfl, rfl, rfl, rfl, rfl, rfl, by kernel_rfl⟩
theorem cellsU8F : Try.prog.cellsOf 5 = 1 := by kernel_rfl
theorem cellsStrF : Try.prog.cellsOf 9 = 1 := by kernel_rfl
theorem cellsEsF : Try.prog.cellsOf 22 = 1 := by kernel_rfl
theorem u8_wf {k : Int} (h : (Lit.int .u8 k).wf = true) : 0 ≤ k ∧ k < 256 := by
  have h2 : IntKind.u8.min ≤ k ∧ k ≤ IntKind.u8.max := by simpa [Lit.wf] using h
  rw [show IntKind.u8.min = 0 from rfl, show IntKind.u8.max = 255 from rfl] at h2
  omega
/-- Entries, one after the other from the last one on. -/
theorem build_es {w : World} {B : Nat} {a : Addr} {len : Nat} (h : ∀ i, i < len → ∃ (nm : ByteArray) (k : Nat) (d : ByteArray) (sv : Value) (s : Es), w.cell? (a.add (i * 4)) = some (.string nm) ∧ w.cell? (a.add (i * 4 + 1)) = some (.int .u8 (k : Int)) ∧ w.cell? (a.add (i * 4 + 2)) = some (.string d) ∧ w.cell? (a.add (i * 4 + 3)) = some sv ∧ nm.size ≤ maxLen ∧ d.size ≤ maxLen ∧ k < 256 ∧ EsAt w B sv s) :
    ∀ j, j ≤ len → ∃ es : Es, es.len = j ∧ CellsAt w B es (a.add ((len - j) * 4))
  | 0, _ => ⟨.nil, rfl, trivial⟩
  | j + 1, hj => by
    obtain ⟨es, hl, hc⟩ := build_es h j (by omega)
    obtain ⟨nm, k, d, sv, s, h0, h1, h2, h3, h4, h5, h6, A, cap, rfl, h7⟩ := h (len - (j + 1)) (by omega)
    refine ⟨.cons nm k d s es, by simp [Es.len, hl], h0, ?_, ?_, h4, h5, h6, ⟨A, cap, ?_, h7⟩, ?_⟩
    · rw [add_two]; exact h1
    · rw [add_two]; exact h2
    · rw [add_two]; exact h3
    · rw [add_two, show (len - (j + 1)) * 4 + 4 = (len - j) * 4 by omega]
      exact hc
set_option maxRecDepth 100000 in
theorem trod_es {H : Type} {enc : TypeId × Value → H} {w : World} {base : Nat} {sp : Nat → Bool} {held : Bool} : ∀ (fuel : Nat) {v : Value} {x : DataW H × List MemPlace},
    DataW.trod enc Try.prog w base sp held fuel 22 [v] = some x → ∃ es : Es, EsAt w w.heap.size v es := by
  intro fuel
  induction fuel using Nat.strongRecOn with
  | ind fuel ih =>
    intro v x hf
    rcases DataW.trod_slice Try.underlying22 hf with ⟨hcs, _⟩ | ⟨a, len, cap, elems, rest, n, hfu, hcs, _, _, hl, hm, hlen, hel, _, _⟩
    · have hv : v = .slice none 0 0 := by simpa using hcs
      subst hv
      exact ⟨.nil, EsAt.nil _ _⟩
    · have hv : v = .slice (some a) len cap := by simpa using hcs
      subst hv
      rw [cellsEnt4] at hel
      have hent : ∀ i, i < len → ∃ (nm : ByteArray) (k : Nat) (d : ByteArray) (sv : Value) (s : Es), w.cell? (a.add (i * 4)) = some (.string nm) ∧ w.cell? (a.add (i * 4 + 1)) = some (.int .u8 (k : Int)) ∧ w.cell? (a.add (i * 4 + 2)) = some (.string d) ∧ w.cell? (a.add (i * 4 + 3)) = some sv ∧ nm.size ≤ maxLen ∧ d.size ≤ maxLen ∧ k < 256 ∧ EsAt w w.heap.size sv s := by
        intro i hi
        have he := hel i hi
        rw [List.getElem?_eq_getElem (by omega)] at he
        rw [Option.bind_eq_some_iff] at he
        obtain ⟨cs, hcs, he⟩ := he
        obtain ⟨_, hl4, hcl⟩ := World.cells?_some hcs
        obtain ⟨f0, f1, hS, t0, t1, o0, o1⟩ := structEnt
        obtain ⟨xs, m, hm1, _, _, hxl, hxs⟩ := DataW.trod_struct hS he
        match cs, hl4 with
        | [c0, c1, c2, c3], _ =>
          have g0 := hcl 0 (by omega)
          have g1 := hcl 1 (by omega)
          have g2 := hcl 2 (by omega)
          have g3 := hcl 3 (by omega)
          rw [add_two] at g0 g1 g2 g3
          simp only [List.getElem?_cons_zero, List.getElem?_cons_succ, Nat.add_zero] at g0 g1 g2 g3
          have e0 := hxs 0 f0 rfl
          have e1 := hxs 1 f1 rfl
          rw [t0, o0, cellsStrF, List.getElem?_eq_getElem (by simp [hxl])] at e0
          rw [t1, o1, cellsNd3, List.getElem?_eq_getElem (by simp [hxl])] at e1
          obtain ⟨nm, q0, _, z0⟩ := DataW.trod_string Try.underlying9 e0
          obtain ⟨n0, n1, n2, hN, u0, u1, u2, p0, p1, p2, _⟩ := structNd
          obtain ⟨ys, m2, hm2, _, _, hyl, hys⟩ := DataW.trod_struct hN e1
          have r0 := hys 0 n0 rfl
          have r1 := hys 1 n1 rfl
          have r2 := hys 2 n2 rfl
          rw [u0, p0, cellsU8F, List.getElem?_eq_getElem (by simp [hyl])] at r0
          rw [u1, p1, cellsStrF, List.getElem?_eq_getElem (by simp [hyl])] at r1
          rw [u2, p2, cellsEsF, List.getElem?_eq_getElem (by simp [hyl])] at r2
          obtain ⟨k, qk, _, zk⟩ := DataW.trod_int Try.underlying5 r0
          obtain ⟨d, qd, _, zd⟩ := DataW.trod_string Try.underlying9 r1
          obtain ⟨s, hs⟩ := ih m2 (by omega) (v := c3) r2
          have hk := u8_wf zk
          obtain rfl : c0 = .string nm := by simpa using q0
          obtain rfl : c1 = .int .u8 k := by simpa using qk
          obtain rfl : c2 = .string d := by simpa using qd
          refine ⟨nm, k.toNat, d, c3, s, g0, ?_, g2, g3, z0, zd, by omega, hs⟩
          rw [Int.toNat_of_nonneg hk.1]
          exact g1
      obtain ⟨es, hlen2, hc⟩ := build_es hent len (Nat.le_refl _)
      subst hlen2
      refine ⟨es, some a, cap, rfl, hl, hm, (fun h => by cases h), fun hp => ⟨a, rfl, ?_, ?_⟩⟩
      · obtain ⟨_, _, _, _, _, h0, _⟩ := hent 0 hp
        have := World.block_lt_of_cell? w _ h0
        rwa [add_block] at this
      · simpa [add_zero] using hc
set_option maxRecDepth 100000 in
theorem open_node {H : Type} {enc : TypeId × Value → H} {w : World} {base : Nat} {sp : Nat → Bool} {held : Bool} {r : Reach} {b0 : Nat} {v : Value} {y : DataW H} {ps : List MemPlace} (_lt : ∀ x ∈ ps, x.block < w.heap.size)
    (hval : Value.okWide Try.prog w r b0 24 v) (hd : DataW.Trod enc Try.prog w base sp held 24 v y ps) :
    ∃ (a : Value) (nd : Nd), NdV w w.heap.size a nd ∧ a = v := by
  obtain ⟨f0, f1, f2, hS, t0, t1, t2, _, _, _, ho⟩ := structNd
  obtain ⟨v0, v1, v2, y0, y1, y2, n, rfl, _, _, h0, h1, h2⟩ := Joins.open_agg3 hS ho cellsNd3 hval hd
  rw [t0] at h0
  rw [t1] at h1
  rw [t2] at h2
  obtain ⟨k, qk, _, zk⟩ := DataW.trod_int Try.underlying5 h0
  obtain ⟨d, qd, _, zd⟩ := DataW.trod_string Try.underlying9 h1
  obtain ⟨es, hes⟩ := trod_es n h2
  have hk := u8_wf zk
  obtain rfl : v0 = .int .u8 k := by simpa using qk
  obtain rfl : v1 = .string d := by simpa using qd
  refine ⟨_, ⟨k.toNat, d, es⟩, ⟨v2, ?_, hes, zd, by show k.toNat < 256; omega⟩, rfl⟩
  show (Value.agg #[.int .u8 k, .string d, v2]) = .agg #[.int .u8 (k.toNat : Int), .string d, v2]
  rw [Int.toNat_of_nonneg hk.1]
end Go.Proofs.Ytcleebigfbbdbaa
