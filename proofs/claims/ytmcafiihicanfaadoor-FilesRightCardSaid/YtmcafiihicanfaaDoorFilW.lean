/- files: the law's Weight. -/
import Derived.Test.YtmcafiihicanfaaDoorFilV
set_option linter.unusedVariables false
set_option linter.unusedSimpArgs false
namespace Go.Proofs.YtmcafiihicanfaaDoor
open Go Go.RowKit Go.BigFrame
open Fil (Es Nd Sp badB)

/-- How much entries have: nodes, bytes of names and data. -/
def weiE : Es → Nat
  | .nil => 0
  | .cons nm _ d s nx => nm.size + (1 + d.size + weiE s) + weiE nx
def weiN (nd : Nd) : Nat := 1 + nd.d.size + weiE nd.es
def nmE : Es → Nat → ByteArray
  | .nil, _ => ⟨#[]⟩
  | .cons nm _ _ _ _, 0 => nm
  | .cons _ _ _ _ nx, i + 1 => nmE nx i
def weiTo : Es → Nat → Nat
  | .nil, _ => 0
  | .cons _ _ _ _ _, 0 => 0
  | .cons nm k d s nx, i + 1 => nm.size + weiN ⟨k, d, s⟩ + weiTo nx i
theorem weiTo_zero (es : Es) : weiTo es 0 = 0 := by cases es <;> rfl
theorem weiTo_step : ∀ (es : Es) (i : Nat), i < es.len → weiTo es (i + 1) = weiTo es i + (nmE es i).size + weiN (kidE es i)
  | .nil, _, h => by simp [Es.len] at h
  | .cons nm k d s nx, 0, _ => by simp [weiTo, weiTo_zero, kidE, nmE]
  | .cons nm k d s nx, i + 1, h => by
    have := weiTo_step nx i (by simp [Es.len] at h; omega)
    simp only [weiTo, kidE, nmE] at this ⊢
    omega
theorem weiTo_all : ∀ es : Es, weiTo es es.len = weiE es
  | .nil => rfl
  | .cons nm k d s nx => by
    have := weiTo_all nx
    simp only [weiTo, Es.len, weiE, weiN] at this ⊢
    omega
theorem weiTo_le : ∀ (es : Es) (i : Nat), weiTo es i ≤ weiE es
  | .nil, _ => Nat.le_refl _
  | .cons _ k d s nx, 0 => Nat.zero_le _
  | .cons nm k d s nx, i + 1 => by
    have := weiTo_le nx i
    simp only [weiTo, weiE, weiN]
    omega
theorem name_at {w : World} {B : Nat} : ∀ {es : Es} {ab ao i : Nat}, CellsAt w B es ⟨ab, ao, none⟩ → i < es.len → w.cell? ⟨ab, ao + i * 4, none⟩ = some (.string (nmE es i)) ∧ (nmE es i).size ≤ maxLen
  | .nil, _, _, _, _, h => by simp [Es.len] at h
  | .cons nm k d s nx, ab, ao, 0, hc, _ => ⟨by simpa [nmE] using hc.1, hc.2.2.2.1⟩
  | .cons nm k d s nx, ab, ao, i + 1, hc, h => by
    obtain ⟨h0, h1, h2, h3, h4, h5, h6, h11⟩ := hc
    rw [add_none] at h11
    have ih := name_at (i := i) h11 (by simp [Es.len] at h; omega)
    rw [show ao + 4 + i * 4 = ao + (i + 1) * 4 by omega] at ih
    exact ih
/-- What Weight tells. -/
def WeiPost (w : World) (nd : Nd) (top : Nat) (e : Ending) (W : World) : Prop :=
  Below w.heap.size w W ∧ ∃ r : Nat, e = .returned (.int .i64 (r : Int)) ∧ r ≤ 2 * top + 2 ∧ (r ≤ top → r = weiN nd) ∧ (top < r → top < weiN nd)
set_option maxRecDepth 1000000 in
set_option maxRecDepth 100000 in
set_option maxHeartbeats 4000000 in
theorem weight_any : ∀ (m : Nat) (nd : Nd), nd.es.count ≤ m → ∀ top : Nat, top ≤ 1000000 → ∀ (w : World) (B : Nat), B ≤ w.heap.size → ∀ v, NdV w B v nd → Calls Tryd.prog 13 #[v, .int .i64 (top : Int)] w (WeiPost w nd top) := by
  intro m
  induction m using Nat.strongRecOn with
  | ind m ih =>
  intro nd hm top htop w B hB v hv
  obtain ⟨ev, rfl, hes, hd, hk⟩ := hv
  obtain ⟨A, c, rfl, hlc, hcm⟩ := hes.form
  have HIH := Lib.hid (And.intro ih hm)
  clear ih hm
  go_enter Tryd.func13, Tryd.ntmps13
  have hbw0 : Below w.heap.size w (w.alloc (ndCells nd.k nd.d (.slice A nd.es.len c))) := (Below.refl _ w).alloc (Nat.le_refl _) _
  have hg0 : (w.alloc (ndCells nd.k nd.d (.slice A nd.es.len c))).heap[w.heap.size]? = some (ndCells nd.k nd.d (.slice A nd.es.len c)) := heap_alloc_new _ _
  have hsz : (w.alloc (ndCells nd.k nd.d (.slice A nd.es.len c))).heap.size = w.heap.size + 1 := by simp
  unfold ndCells at hbw0 hg0 hsz
  have HES := Lib.hid hes
  have HB := Lib.hid (And.intro hbw0 (And.intro hg0 hsz))
  clear hes hbw0 hg0 hsz
  have ht1 : IntKind.i64.wrap ((top : Int) + 1) = (top : Int) + 1 := IntWalk.i64_in _ (by omega)
  rcases Bool.eq_false_or_eq_true (decide (top < nd.d.size)) with hbig | hbig
  · have HBG := Lib.hid (of_decide_eq_true hbig)
    go_wp2
    go_ret
    refine ⟨HB.out.1, top + 1, by simp, by omega, fun h => by omega, fun _ => ?_⟩
    have := HBG.out
    unfold weiN
    omega
  have hds : (nd.d.size : Int) ≤ (top : Int) := by have := of_decide_eq_false hbig; omega
  have hd1 : IntKind.i64.wrap ((1 : Int) + (nd.d.size : Int)) = (1 : Int) + (nd.d.size : Int) := IntWalk.i64_in _ (by omega)
  go_wp2
  clear hbig hd1
  generalize hW0 : World.alloc _ _ = W0 at *
  clear hW0
  go_loopg [5, 6] nd.es.len (fun g u5 u6 wx => ∃ (i r : Nat), u5 = .int .i64 (r : Int) ∧ u6 = .int .i64 (i : Int) ∧ i + g = nd.es.len ∧ Below W0.heap.size W0 wx ∧ r ≤ 2 * top + 2 ∧ Hid ((r ≤ top → r = 1 + nd.d.size + weiTo nd.es i) ∧ (top < r → top < 1 + nd.d.size + weiTo nd.es i)))
  case atStart => exact ⟨0, 1 + nd.d.size, by simp, rfl, by omega, Below.refl _ _, by omega, fun _ => by rw [weiTo_zero]; omega, fun _ => by rw [weiTo_zero]; omega⟩
  case round =>
    obtain ⟨i, r, rfl, rfl, hig, hbw, hr2, HR⟩ := hrel
    have hbl : Below w.heap.size w wr := HB.out.1.trans (hbw.mono (by have := HB.out.2.2; omega))
    have hbx : wr.heap[w.heap.size]? = some (ndCells nd.k nd.d (.slice A nd.es.len c)) := (hbw.block _ (by have := HB.out.2.2; omega)).trans HB.out.2.1
    obtain ⟨hn0, hn1, hn2, _⟩ := nd_box hbx
    clear hn0 hn1 hbx
    rcases Bool.eq_false_or_eq_true (decide (r ≤ top)) with hrt | hrt
    rotate_left
    · have HRT := Lib.hid (of_decide_eq_false hrt)
      go_wp2
      all_goals
        go_ret
        refine ⟨hbl, r, rfl, hr2, fun h => by have := HRT.out; omega, fun h => ?_⟩
        have := HR.out.2 h
        have := weiTo_le nd.es i
        unfold weiN
        omega
    have HRT := Lib.hid (of_decide_eq_true hrt)
    cases gk with
    | zero =>
      obtain rfl : i = nd.es.len := by omega
      have HAL := Lib.hid (weiTo_all nd.es)
      go_wp2
      go_ret
      refine ⟨hbl, r, rfl, hr2, fun h => ?_, fun h => by have := HRT.out; omega⟩
      have := HR.out.1 h
      have := HAL.out
      unfold weiN
      omega
    | succ g =>
      have hil : i < nd.es.len := by omega
      obtain ⟨ab, ao, rfl, hlt, hcs⟩ := es_addr HES.out (by omega)
      obtain ⟨hk1, hk2, hk3, hk4, A2, c2, hk5, hk6⟩ := kid_at hcs hil hlt
      obtain ⟨hnm, hnz⟩ := name_at hcs hil
      have hq0 : wr.cell? ⟨ab, ao + i * 4, none⟩ = _ := (hbl.cell (p := ⟨ab, ao + i * 4, none⟩) (by show ab < _; omega)).trans hnm
      have hq1 : wr.cell? ⟨ab, ao + i * 4 + 1, none⟩ = _ := (hbl.cell (p := ⟨ab, ao + i * 4 + 1, none⟩) (by show ab < _; omega)).trans hk1
      have hq2 : wr.cell? ⟨ab, ao + i * 4 + 2, none⟩ = _ := (hbl.cell (p := ⟨ab, ao + i * 4 + 2, none⟩) (by show ab < _; omega)).trans hk2
      have hq3 : wr.cell? ⟨ab, ao + i * 4 + 3, none⟩ = _ := (hbl.cell (p := ⟨ab, ao + i * 4 + 3, none⟩) (by show ab < _; omega)).trans hk5
      have HST := Lib.hid (weiTo_step nd.es i hil)
      have hkc := kid_count nd.es i hil
      have HREC := Lib.hid (fun (t : Nat) (ht : t ≤ 1000000) (z : Int) (hz : z = (t : Int)) => (by subst hz; exact HIH.out.1 (kidE nd.es i).es.count (by have := HIH.out.2; omega) (kidE nd.es i) (Nat.le_refl _) t ht wr B (Nat.le_trans hB hbl.size) _ ⟨_, rfl, hk6.keep (hbl.mono hB), hk3, hk4⟩ : Calls Tryd.prog 13 #[.agg #[.int .u8 ((kidE nd.es i).k : Int), .string (kidE nd.es i).d, .slice A2 (kidE nd.es i).es.len c2], .int .i64 z] wr (WeiPost wr (kidE nd.es i) t)))
      have HLE := Lib.hid (weiTo_le nd.es (i + 1))
      have hw2 : IntKind.i64.wrap ((i : Int) + 1) = (i : Int) + 1 := IntWalk.i64_in _ (by unfold maxLen at hcm; omega)
      clear hkc hcs hk1 hk2 hk3 hk4 hk5 hk6 hnm hnz
      rcases Bool.eq_false_or_eq_true (decide (top < (nmE nd.es i).size)) with hnb | hnb
      · have HNB := Lib.hid (of_decide_eq_true hnb)
        go_wp2
        go_ret
        refine ⟨hbl, top + 1, by simp, by omega, fun h => by omega, fun _ => ?_⟩
        have := HNB.out
        have := HST.out
        have := HLE.out
        unfold weiN
        omega
      have HNB := Lib.hid (of_decide_eq_false hnb)
      have hw3 : IntKind.i64.wrap ((r : Int) + ((nmE nd.es i).size : Int)) = (r : Int) + ((nmE nd.es i).size : Int) := IntWalk.i64_in _ (by have := HNB.out; omega)
      rcases Bool.eq_false_or_eq_true (decide ((r : Int) + ((nmE nd.es i).size : Int) ≤ (top : Int))) with hrn | hrn
      rotate_left
      · have HRN := Lib.hid (of_decide_eq_false hrn)
        have hrn' : decide (r + (nmE nd.es i).size ≤ top) = false := decide_eq_false (by have := HRN.out; omega)
        go_wp2
        go_roundg g
        case measure => omega
        case rel =>
          have h1 := HRN.out
          have h2 := HNB.out
          have h3 := HST.out
          have h4 := HRT.out
          have h5 := HR.out.1 (by omega)
          exact ⟨i + 1, r + (nmE nd.es i).size, by simp, by simp, by omega, hbw, by omega, fun h => by omega, fun h => by omega⟩
      · have HRN := Lib.hid (of_decide_eq_true hrn)
        have hrn' : decide (r + (nmE nd.es i).size ≤ top) = true := decide_eq_true (by have := HRN.out; omega)
        obtain ⟨t, ht⟩ : ∃ t : Nat, (top : Int) - ((r : Int) + ((nmE nd.es i).size : Int)) = (t : Int) := ⟨top - (r + (nmE nd.es i).size), by have := HRN.out; omega⟩
        have hw4 : IntKind.i64.wrap ((top : Int) - ((r : Int) + ((nmE nd.es i).size : Int))) = (t : Int) := by rw [ht]; exact IntWalk.i64_in _ (by omega)
        have HT := Lib.hid ht
        have hw5 : ∀ q : Nat, q ≤ 2 * t + 2 → IntKind.i64.wrap ((r : Int) + ((nmE nd.es i).size : Int) + (q : Int)) = (r : Int) + ((nmE nd.es i).size : Int) + (q : Int) := fun q hq => IntWalk.i64_in _ (by have := HRN.out; omega)
        have HW5 := Lib.hid hw5
        clear hw5
        clear ht
        go_wp2_with (go_at_call 13; refine (HREC.out t (by have := HT.out; omega) (t : Int) rfl).mono ?_; rintro e W2 ⟨hb2, q, rfl, hq1', hq2', hq3'⟩; have hw6 := HW5.out q hq1')
        go_roundg g
        case measure => omega
        case rel =>
          have h1 := HRN.out
          have h2 := HNB.out
          have h3 := HST.out
          have h4 := HRT.out
          have h5 := HR.out.1 (by omega)
          have h6 := HT.out
          exact ⟨i + 1, r + (nmE nd.es i).size + q, by simp, by simp, by omega, hbw.trans (hb2.mono hbw.size), by omega, fun h => by have := hq2' (by omega); omega, fun h => by have := hq3' (by omega); omega⟩
end Go.Proofs.YtmcafiihicanfaaDoor
