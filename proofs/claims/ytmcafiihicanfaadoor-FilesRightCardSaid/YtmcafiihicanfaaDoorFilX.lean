/- files: the reference's Find. -/
import Derived.Test.YtmcafiihicanfaaDoorFilW
set_option linter.unusedVariables false
set_option linter.unusedSimpArgs false
namespace Go.Proofs.YtmcafiihicanfaaDoor
open Go Go.RowKit Go.BigFrame
open Fil (Es Nd Sp badB)

def findN (nd : Nd) (nm : ByteArray) : Int := if (placeN nd nm).2 then ((placeN nd nm).1 : Int) else -1
set_option maxRecDepth 1000000 in
set_option maxRecDepth 100000 in
set_option maxHeartbeats 4000000 in
theorem find_any (w : World) (B : Nat) (hB : B ≤ w.heap.size) (v : Value) (nd : Nd) (hv : NdV w B v nd) (nm : ByteArray) :
    Calls Tryd.prog 46 #[v, .string nm] w fun e W => e = .returned (.int .i64 (findN nd nm)) ∧ Below w.heap.size w W := by
  obtain ⟨ev, rfl, hes, hd, hk⟩ := hv
  obtain ⟨A, c, rfl, hlc, hcm⟩ := hes.form
  go_enter Tryd.func46, Tryd.ntmps46
  have hbw0 : Below w.heap.size w (w.alloc (.cells #[.int .u8 (nd.k : Int), .string nd.d, .slice A nd.es.len c] 26)) := (Below.refl _ w).alloc (Nat.le_refl _) _
  have HES := Lib.hid hes
  have HB := Lib.hid hbw0
  clear hes hbw0
  have HF := Lib.hid (show findN nd nm = if nd.k = 4 then (match idxE nm nd.es with | some i => (i : Int) | none => -1) else -1 by
    unfold findN placeN
    by_cases h4 : nd.k = 4
    · rw [if_pos h4, if_pos h4]
      cases idxE nm nd.es <;> rfl
    · rw [if_neg h4, if_neg h4]; rfl)
  go_wp2
  go_loopg [5] nd.es.len (fun g u5 wx => ∃ (rest : Es) (i : Nat), u5 = .int .i64 (i : Int) ∧ i + g = nd.es.len ∧ wx = w.alloc (.cells #[.int .u8 (nd.k : Int), .string nd.d, .slice A nd.es.len c] 26) ∧ Hid (rest.len = g ∧ (0 < g → ∃ a, A = some a ∧ a.block < B ∧ CellsAt w B rest (a.add (4 * i))) ∧ (nd.k = 4 → idxE nm nd.es = (idxE nm rest).map (· + i))))
  case atStart =>
    refine ⟨nd.es, 0, rfl, by omega, rfl, rfl, fun hp => ?_, fun _ => by simp⟩
    obtain ⟨ab, ao, hA, hlt, hcc⟩ := es_addr HES.out hp
    exact ⟨_, hA, hlt, by simpa [add_none] using hcc⟩
  case round =>
    obtain ⟨rest, i, rfl, hig, rfl, HR⟩ := hrel
    cases gk with
    | zero =>
      have HN := Lib.hid (show findN nd nm = -1 by
        obtain ⟨e1, _, e2⟩ := HR.out
        rw [HF.out]
        by_cases h4 : nd.k = 4
        · rw [if_pos h4, e2 h4]
          cases rest with
          | nil => rfl
          | cons _ _ _ _ _ => simp [Es.len] at e1
        · rw [if_neg h4])
      obtain rfl : i = nd.es.len := by omega
      go_wp2
      go_ret
      exact ⟨by rw [HN.out]; rfl, HB.out⟩
    | succ g =>
      obtain ⟨e1, e2, e3⟩ := HR.out
      cases rest with
      | nil => simp [Es.len] at e1
      | cons nm' k d s n' =>
        obtain ⟨ab, ao, rfl, hlt, _⟩ := es_addr HES.out (by omega)
        obtain ⟨a, ha, _, hcc⟩ := e2 (by omega)
        obtain rfl : a = ⟨ab, ao, none⟩ := (Option.some.inj ha).symm
        obtain ⟨hc0, _, _, hnm, _, _, _, hct⟩ := hcc
        have hc0' : (w.alloc (.cells #[.int .u8 (nd.k : Int), .string nd.d, .slice (some ⟨ab, ao, none⟩) nd.es.len c] 26)).cell? ⟨ab, ao + i * 4, none⟩ = some (.string nm') := by
          rw [HB.out.cell (p := ⟨ab, ao + i * 4, none⟩) (Nat.lt_of_lt_of_le hlt hB)]
          rw [add_none, Nat.mul_comm] at hc0
          exact hc0
        have hil : i < nd.es.len := by omega
        have hw1 : IntKind.i64.wrap ((i : Int) + 1) = (i : Int) + 1 := IntWalk.i64_in _ (by unfold maxLen at hcm; omega)
        have hlen : n'.len = g := by simp [Es.len] at e1; exact e1
        have HX := Lib.hid (And.intro hct (And.intro hlt (And.intro hlen e3)))
        clear e1 e2 e3 hc0 hct hlt hlen ha hnm
        by_cases h4 : nd.k = 4
        · have e4 : ((nd.k : Int) == 4) = true := by rw [h4]; rfl
          have H4 := Lib.hid h4
          clear h4
          rcases Bool.eq_false_or_eq_true (nm'.toList == nm.toList) with hq | hq
          · have HN := Lib.hid (show findN nd nm = (i : Int) by rw [HF.out, if_pos H4.out, HX.out.2.2.2 H4.out]; simp only [idxE, hq, if_true, Option.map_some]; simp)
            go_wp2
            go_ret
            exact ⟨by rw [HN.out]; rfl, HB.out⟩
          · have HN := Lib.hid (show idxE nm nd.es = (idxE nm n').map (· + (i + 1)) by rw [HX.out.2.2.2 H4.out]; simp only [idxE, hq, Bool.false_eq_true, if_false, Option.map_map]; congr 1; funext x; simp; omega)
            go_wp2
            go_roundg g
            case measure => omega
            case rel =>
              refine ⟨n', i + 1, by simp, by omega, rfl, HX.out.2.2.1, fun hp => ⟨_, rfl, HX.out.2.1, ?_⟩, fun _ => HN.out⟩
              have := HX.out.1
              rw [add_none, add_none] at this
              rw [add_none]
              rw [show ao + 4 * (i + 1) = ao + 4 * i + 4 by omega]
              exact this
        · have e4 : ((nd.k : Int) == 4) = false := beq_eq_false_iff_ne.2 (by omega)
          have H4 := Lib.hid h4
          clear h4
          go_wp2
          go_roundg g
          case measure => omega
          case rel =>
            refine ⟨n', i + 1, by simp, by omega, rfl, HX.out.2.2.1, fun hp => ⟨_, rfl, HX.out.2.1, ?_⟩, fun h => absurd h H4.out⟩
            have := HX.out.1
            rw [add_none, add_none] at this
            rw [add_none]
            rw [show ao + 4 * (i + 1) = ao + 4 * i + 4 by omega]
            exact this
end Go.Proofs.YtmcafiihicanfaaDoor
