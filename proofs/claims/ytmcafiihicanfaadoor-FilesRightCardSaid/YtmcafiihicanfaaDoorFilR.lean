/- files: place. -/
import Derived.Test.YtmcafiihicanfaaDoorFilN
set_option linter.unusedVariables false
set_option linter.unusedSimpArgs false
namespace Go.Proofs.YtmcafiihicanfaaDoor
open Go Go.RowKit Go.BigFrame
open Fil (Es Nd Sp)

/-- Where the first entry of a name stands. -/
def idxE (nm : ByteArray) : Es → Option Nat
  | .nil => none
  | .cons n' _ _ _ nx => if n'.toList == nm.toList then some 0 else (idxE nm nx).map (· + 1)
def placeN (nd : Nd) (nm : ByteArray) : Nat × Bool := if nd.k = 4 then (match idxE nm nd.es with | some i => (i, true) | none => (0, false)) else (0, false)
theorem es_addr {w : World} {B : Nat} {A : Option Addr} {c : Nat} {es : Es} (hes : EsAt w B (.slice A es.len c) es) (hp0 : 0 < es.len) : ∃ ab ao, A = some ⟨ab, ao, none⟩ ∧ ab < B ∧ CellsAt w B es ⟨ab, ao, none⟩ := by
  obtain ⟨A', c', e, _, _, _, h5⟩ := hes
  obtain ⟨a, ha, hlt, hcc⟩ := h5 hp0
  injection e with e1 e2 e3
  cases hE : es with
  | nil => rw [hE] at hp0; simp [Es.len] at hp0
  | cons nm k d s n' =>
    rw [hE] at hcc
    have := spot_none hcc.1
    obtain ⟨ab, ao, asp⟩ := a
    obtain rfl : asp = none := this
    exact ⟨ab, ao, e1.trans ha, hlt, hcc⟩
set_option maxRecDepth 1000000 in
set_option maxRecDepth 100000 in
set_option maxHeartbeats 4000000 in
theorem place_any (w : World) (B : Nat) (hB : B ≤ w.heap.size) (v : Value) (nd : Nd) (hv : NdV w B v nd) (nm : ByteArray) :
    Calls Tryd.prog 44 #[v, .string nm] w fun e W => e = .returned (.tuple #[.int .i64 ((placeN nd nm).1 : Int), .bool (placeN nd nm).2]) ∧ Below w.heap.size w W := by
  obtain ⟨ev, rfl, hes, hd, hk⟩ := hv
  obtain ⟨A, c, rfl, hlc, hcm⟩ := hes.form
  go_enter Tryd.func44, Tryd.ntmps44
  have hb0 := heap_alloc_new w (.cells #[.int .u8 (nd.k : Int), .string nd.d, .slice A nd.es.len c] 26)
  have hbw0 : Below w.heap.size w (w.alloc (.cells #[.int .u8 (nd.k : Int), .string nd.d, .slice A nd.es.len c] 26)) := (Below.refl _ w).alloc (Nat.le_refl _) _
  by_cases h4 : nd.k = 4
  rotate_left
  · have e4 : ((nd.k : Int) != 4) = true := bne_iff_ne.2 (by omega)
    have hp : placeN nd nm = (0, false) := by unfold placeN; rw [if_neg h4]
    rw [hp]
    clear hb0 hes
    go_wp2
    go_ret2
    exact ⟨rfl, hbw0⟩
  have e4 : ((nd.k : Int) != 4) = false := by rw [h4]; rfl
  have hp : placeN nd nm = (match idxE nm nd.es with | some i => (i, true) | none => (0, false)) := by unfold placeN; rw [if_pos h4]
  have HP := Lib.hid hp
  have HES := Lib.hid hes
  have HB := Lib.hid (And.intro hb0 hbw0)
  clear h4 hp hes hb0 hbw0
  go_wp2
  go_loopg [6, 13] nd.es.len (fun g _ u13 wx => ∃ (rest : Es) (i : Nat), u13 = .int .i64 (i : Int) ∧ i + g = nd.es.len ∧ wx = w.alloc (.cells #[.int .u8 (nd.k : Int), .string nd.d, .slice A nd.es.len c] 26) ∧ Hid (rest.len = g ∧ (0 < g → ∃ a, A = some a ∧ a.block < B ∧ CellsAt w B rest (a.add (4 * i))) ∧ idxE nm nd.es = (idxE nm rest).map (· + i)))
  case atStart =>
    refine ⟨nd.es, 0, rfl, by omega, rfl, rfl, fun hp => ?_, by simp⟩
    obtain ⟨ab, ao, hA, hlt, hcc⟩ := es_addr HES.out hp
    exact ⟨_, hA, hlt, by simpa [add_none] using hcc⟩
  case round =>
    obtain ⟨rest, i, rfl, hig, rfl, HR⟩ := hrel
    cases gk with
    | zero =>
      have HN := Lib.hid (show placeN nd nm = (0, false) by
        obtain ⟨e1, _, e2⟩ := HR.out
        rw [HP.out, e2]
        cases rest with
        | nil => rfl
        | cons _ _ _ _ _ => simp [Es.len] at e1)
      obtain rfl : i = nd.es.len := by omega
      go_wp2
      go_ret2
      exact ⟨by rw [HN.out]; rfl, HB.out.2⟩
    | succ g =>
      obtain ⟨e1, e2, e3⟩ := HR.out
      cases rest with
      | nil => simp [Es.len] at e1
      | cons nm' k d s n' =>
        obtain ⟨ab, ao, rfl, hlt, _⟩ := es_addr HES.out (by omega)
        obtain ⟨a, ha, _, hcc⟩ := e2 (by omega)
        obtain rfl : a = ⟨ab, ao, none⟩ := (Option.some.inj ha).symm
        obtain ⟨hc0, _, _, hnm, _, _, _, hct⟩ := hcc
        have hc0' : (w.alloc (.cells #[.int .u8 (nd.k : Int), .string nd.d, .slice (some ⟨ab, ao, none⟩) nd.es.len c] 26)).cell? ⟨ab, ao + i * 4, none⟩ = some (.string nm') := by
          rw [HB.out.2.cell (p := ⟨ab, ao + i * 4, none⟩) (Nat.lt_of_lt_of_le hlt hB)]
          rw [add_none, Nat.mul_comm] at hc0
          exact hc0
        have hil : i < nd.es.len := by omega
        have hw1 : IntKind.i64.wrap ((i : Int) + 1) = (i : Int) + 1 := IntWalk.i64_in _ (by unfold maxLen at hcm; omega)
        have hlen : n'.len = g := by simp [Es.len] at e1; exact e1
        have HX := Lib.hid (And.intro hct (And.intro hlt (And.intro hlen e3)))
        clear e1 e2 e3 hc0 hct hlt hlen ha hnm
        rcases Bool.eq_false_or_eq_true (nm'.toList == nm.toList) with hq | hq
        · have HN := Lib.hid (show placeN nd nm = (i, true) by rw [HP.out, HX.out.2.2.2]; simp only [idxE, hq, if_true, Option.map_some]; simp)
          go_wp2
          go_ret2
          exact ⟨by rw [HN.out]; rfl, HB.out.2⟩
        · have HN := Lib.hid (show idxE nm nd.es = (idxE nm n').map (· + (i + 1)) by rw [HX.out.2.2.2]; simp only [idxE, hq, Bool.false_eq_true, if_false, Option.map_map]; congr 1; funext x; simp; omega)
          go_wp2
          go_roundg g
          case measure => omega
          case rel =>
            refine ⟨n', i + 1, by simp, by omega, rfl, HX.out.2.2.1, fun hp => ⟨_, rfl, HX.out.2.1, ?_⟩, HN.out⟩
            have := HX.out.1
            rw [add_none, add_none] at this
            rw [add_none]
            rw [show ao + 4 * (i + 1) = ao + 4 * i + 4 by omega]
            exact this
end Go.Proofs.YtmcafiihicanfaaDoor
