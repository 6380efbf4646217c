/- disk: refuse, find. -/
import Derived.Test.YtfgbaigpmhnoaaaDskB
set_option linter.unusedVariables false
set_option linter.unusedSimpArgs false
namespace Go.Proofs.Ytfgbaigpmhnoaaa
open Go.RowKit Go.BigFrame Go.Maps
open Dsk (Fl St Ok get put drop used)

/-- May a name be? -/
def nameOk (s : ByteArray) : Bool := decide (0 < s.size) && decide (s.size ≤ 128)
/-- What bars a call with these names. -/
def refC (S : St) (l : List ByteArray) : Int := if S.off then 40 else if l.all nameOk then 0 else 2
/-- A row of names. -/
def NRow (w : World) (v : Value) (l : List ByteArray) : Prop := Reads w w.heap.size v (strs l) ∧ ∀ s ∈ l, s.size ≤ maxLen
theorem NRow.at {w : World} {v : Value} {l : List ByteArray} (h : NRow w v l) (k : Nat) (hk : k < l.length) : ∃ ad cap, v = .slice (some ad) l.length cap ∧ l.length ≤ cap ∧ cap ≤ maxLen ∧ w.cell? (ad.add k) = some (.string (l.getD k ⟨#[]⟩)) ∧ (l.getD k ⟨#[]⟩).size ≤ maxLen := by
  obtain ⟨⟨A, cap, e, h1, h2, _, h4⟩, hs⟩ := h
  rw [strs_len] at e h1 h4
  obtain ⟨ad, rfl, _, hc⟩ := h4 (by omega)
  refine ⟨ad, cap, e, h1, h2, hc k _ (strs_get l k hk), ?_⟩
  have : l.getD k ⟨#[]⟩ = l[k] := by simp [List.getD, hk]
  rw [this]; exact hs _ (List.getElem_mem hk)
theorem all_take {l : List ByteArray} {k : Nat} (hk : k < l.length) (h : (l.take k).all nameOk = true) (hn : nameOk (l.getD k ⟨#[]⟩) = true) : (l.take (k + 1)).all nameOk = true := by
  have : l.getD k ⟨#[]⟩ = l[k] := by simp [List.getD, hk]
  rw [List.take_succ_eq_append_getElem hk, List.all_append, h, ← this]
  simpa using hn
theorem all_not {l : List ByteArray} {k : Nat} (hk : k < l.length) (hn : nameOk (l.getD k ⟨#[]⟩) = false) : l.all nameOk = false := by
  have : l.getD k ⟨#[]⟩ = l[k] := by simp [List.getD, hk]
  rw [this] at hn
  rw [List.all_eq_false]
  exact ⟨_, List.getElem_mem hk, by rw [hn]; simp⟩
set_option maxRecDepth 100000 in
set_option maxHeartbeats 800000 in
theorem refuse_any (w : World) (base db : Nat) (ro : Nat → Role) (S : St) (v : Value) (l : List ByteArray) (h : DiskAt w base db ro S) (hv : NRow w v l) (hl : 0 < l.length) :
    Calls Try.prog 38 #[.pointer (some ⟨db, 0, none⟩), v] w fun e w' => e = .returned (.int .i64 (refC S l)) ∧ w' = w := by
  obtain ⟨mb, n, D, av, h⟩ := h
  obtain ⟨_, _, _, _, _, h5⟩ := h.cells
  have HV := Lib.hid hv
  obtain ⟨ad, cap, rfl, h1, h2, _⟩ := hv.at 0 hl
  unfold maxLen at h2
  cases ho : S.off with
  | true =>
    rw [ho] at h5
    have e : refC S l = 40 := by unfold refC; rw [if_pos ho]
    rw [e]
    clear h hv HV ho e
    go_enter Try.func38, Try.ntmps38
    go_wp2
    go_ret
    exact ⟨rfl, by trivial⟩
  | false =>
    rw [ho] at h5
    have HYES := Lib.hid (fun (hy : l.all nameOk = true) => show (fun e w' => e = Ending.returned (.int .i64 (refC S l)) ∧ w' = w) (.returned (.int .i64 0)) w from ⟨by unfold refC; rw [ho, hy]; rfl, rfl⟩)
    have HNO := Lib.hid (fun (hy : l.all nameOk = false) => show (fun e w' => e = Ending.returned (.int .i64 (refC S l)) ∧ w' = w) (.returned (.int .i64 2)) w from ⟨by unfold refC; rw [ho, hy]; rfl, rfl⟩)
    generalize (fun e w' => e = Ending.returned (.int .i64 (refC S l)) ∧ w' = w) = post at *
    clear h hv ho
    go_enter Try.func38, Try.ntmps38
    go_wp2
    go_loop [6, 15] (fun _ kv => ∃ k : Nat, kv = .int .i64 (k : Int) ∧ k ≤ l.length ∧ Hid ((l.take k).all nameOk = true)) (fun _ kv => l.length - (intOf kv).toNat)
    case atStart => exact ⟨0, rfl, by omega, Lib.hid (by simp)⟩
    case round =>
      obtain ⟨k, rfl, hk, HA⟩ := hrel
      by_cases hlt : k < l.length
      · obtain ⟨ad', cap', e, _, _, hc, hsz⟩ := HV.out.at k hlt
        cases e
        unfold maxLen at hsz
        have HT := Lib.hid (fun hn => all_take hlt HA.out hn)
        have HN := Lib.hid (fun hn => HNO.out (all_not hlt hn))
        obtain ⟨s, hs⟩ : ∃ s, s = l.getD k ⟨#[]⟩ := ⟨_, rfl⟩
        rw [← hs] at hc hsz HT HN
        have hkk : (k : Int) < (l.length : Int) := by omega
        clear hs HA HNO
        by_cases hz : s.size = 0
        · have HQ := Lib.hid (HN.out (by unfold nameOk; rw [decide_eq_false (by omega)]; rfl))
          have hemp : s.toList = [] := by rw [Lib.toList_data]; exact List.eq_nil_of_length_eq_zero (by rw [Array.length_toList]; exact hz)
          clear HT HN hz
          go_wp2
          exact HQ.out
        · have hemp : s.toList.isEmpty = false := by
            rw [← decide_eq_emptyBytes]
            exact decide_eq_false (fun h => by rw [h] at hz; exact hz rfl)
          by_cases hz2 : 128 < s.size
          · have HQ := Lib.hid (HN.out (by unfold nameOk; rw [decide_eq_false (show ¬ s.size ≤ 128 by omega), Bool.and_false]))
            have hzi : (128 : Int) < (s.size : Int) := by omega
            clear HT HN hz
            go_wp2
            exact HQ.out
          · have HA2 := Lib.hid (HT.out (by unfold nameOk; rw [decide_eq_true (by omega), decide_eq_true (by omega)]; rfl))
            have hzi : ¬ (128 : Int) < (s.size : Int) := by omega
            clear HT HN hz
            go_wp2
            go_round
            case rel => exact ⟨k + 1, by go_num, by omega, HA2⟩
            case measure => simp [intOf]; omega
      · have HQ := Lib.hid (HYES.out (by have := HA.out; rwa [List.take_of_length_le (by omega)] at this))
        have hkk : ¬ (k : Int) < (l.length : Int) := by omega
        clear HA HYES HNO
        go_wp2
        exact HQ.out
/-- What find tells of a row of names. -/
def FindPost (w : World) (base : Nat) (D : DataW Unit) (ro : Nat → Role) (S : St) (l : List ByteArray) (e : Ending) (w' : World) : Prop :=
  (∃ nq, w' = w.drewN nq) ∧ ((refC S l ≠ 0 ∧ e = .returned (.tuple #[.pointer none, .int .i64 (refC S l)])) ∨ (refC S l = 0 ∧ get S.fs (l.getD 0 ⟨#[]⟩) = none ∧ e = .returned (.tuple #[.pointer none, .int .i64 5])) ∨
    (refC S l = 0 ∧ ∃ f fb v, get S.fs (l.getD 0 ⟨#[]⟩) = some f ∧ e = .returned (.tuple #[.pointer (some ⟨fb, 0, none⟩), .int .i64 0]) ∧ D.atKey (kS (l.getD 0 ⟨#[]⟩)) .nil = .lit (.int .i64 ((fb : Nat) : Int)) ∧ FileAt w base ro (l.getD 0 ⟨#[]⟩) fb v f))
theorem DiskIn.drewN {w : World} {base db mb n : Nat} {D : DataW Unit} {av : Value} {ro : Nat → Role} {S : St} (h : DiskIn w base db mb n D av ro S) (q : Nat) : DiskIn (w.drewN q) base db mb n D av ro S :=
  h.ch ((Ch.refl w (fun _ => False)).drewN q) fun _ _ h => h
theorem refC_vals (S : St) (l : List ByteArray) : refC S l = 0 ∨ refC S l = 2 ∨ refC S l = 40 := by
  unfold refC
  split
  · simp
  · split <;> simp
set_option maxRecDepth 100000 in
set_option maxHeartbeats 1600000 in
theorem find_any (w : World) (base db mb n : Nat) (D : DataW Unit) (av : Value) (ro : Nat → Role) (S : St) (v : Value) (l : List ByteArray) (h : DiskIn w base db mb n D av ro S) (hv : NRow w v l) (hl : 0 < l.length) :
    Calls Try.prog 42 #[.pointer (some ⟨db, 0, none⟩), v] w (FindPost w base D ro S l) := by
  have HR := Lib.hid (refuse_any w base db ro S v l ⟨mb, n, D, av, h⟩ hv hl)
  have HP1 := Lib.hid (fun (hc : refC S l ≠ 0) => show FindPost w base D ro S l (.returned (.tuple #[.pointer none, .int .i64 (refC S l)])) w from ⟨⟨0, rfl⟩, .inl ⟨hc, rfl⟩⟩)
  have HP2 := Lib.hid (fun (nq : Nat) (hc : refC S l = 0) (hg : get S.fs (l.getD 0 ⟨#[]⟩) = none) => show FindPost w base D ro S l (.returned (.tuple #[.pointer none, .int .i64 5])) (w.drewN nq) from ⟨⟨nq, rfl⟩, .inr (.inl ⟨hc, hg, rfl⟩)⟩)
  have HP3 := Lib.hid (fun (nq : Nat) (hc : refC S l = 0) (f : Fl) (fb : Nat) (vv : Value) (hg : get S.fs (l.getD 0 ⟨#[]⟩) = some f) (h1 : D.atKey (kS (l.getD 0 ⟨#[]⟩)) .nil = .lit (.int .i64 ((fb : Nat) : Int))) (h2 : FileAt w base ro (l.getD 0 ⟨#[]⟩) fb vv f) => show FindPost w base D ro S l (.returned (.tuple #[.pointer (some ⟨fb, 0, none⟩), .int .i64 0])) (w.drewN nq) from ⟨⟨nq, rfl⟩, .inr (.inr ⟨hc, f, fb, vv, hg, rfl, h1, h2⟩)⟩)
  generalize FindPost w base D ro S l = post at *
  obtain ⟨_, h1, _, _, _, _⟩ := h.cells
  obtain ⟨ad, cap, rfl, hcap, hcm, hc0, hsz⟩ := hv.at 0 hl
  rw [add_zero] at hc0
  unfold maxLen at hcm
  have hll : (0 : Int) < (l.length : Int) := by omega
  have HLK := Lib.hid (fun nq => (h.drewN nq).look (l.getD 0 ⟨#[]⟩) hsz)
  have hvals := refC_vals S l
  have HK0 := Lib.hid (h.look (l.getD 0 ⟨#[]⟩) hsz)
  clear h hv hsz
  by_cases hc : refC S l = 0
  · have HRC := Lib.hid hc
    rw [hc] at HR
    clear hc hvals HP1
    obtain ⟨s, hs⟩ : ∃ s, s = l.getD 0 ⟨#[]⟩ := ⟨_, rfl⟩
    rw [← hs] at hc0 HLK HK0 HP2 HP3
    clear hs
    cases hg : get S.fs s with
    | none =>
      have hrun : ∀ nq, (Instr.lookup 55 (.map (some mb)) (.string s) false).run Try.prog (w.drewN nq) = .ok (.pointer none) (w.drewN nq) := fun nq => by
        rcases HLK.out nq with ⟨_, h⟩ | ⟨f, _, _, hf, _⟩
        · exact h
        · rw [hg] at hf; cases hf
      have HQ := Lib.hid (fun nq => HP2.out nq HRC.out hg)
      clear hg HLK HK0 HP2 HP3
      go_enter Try.func42, Try.ntmps42
      go_wp2_with fail
      refine HR.out.mono ?_
      rintro e w' ⟨rfl, hw⟩
      obtain rfl := hw.symm
      go_wp2
      go_quiet (fail)
      go_wp2
      exact HQ.out _
    | some f =>
      obtain ⟨fb, vv, h1', h2', h3'⟩ : ∃ fb vv, (Instr.lookup 55 (.map (some mb)) (.string s) false).run Try.prog w = .ok (.pointer (some ⟨fb, 0, none⟩)) w ∧ D.atKey (kS s) .nil = .lit (.int .i64 ((fb : Nat) : Int)) ∧ FileAt w base ro s fb vv f := by
        rcases HK0.out with ⟨h, _⟩ | ⟨f', fb, vv, hf, hr, ha, hfa⟩
        · rw [hg] at h; cases h
        · rw [hg] at hf; cases hf; exact ⟨fb, vv, hr, ha, hfa⟩
      have hrun : ∀ nq, (Instr.lookup 55 (.map (some mb)) (.string s) false).run Try.prog (w.drewN nq) = .ok (.pointer (some ⟨fb, 0, none⟩)) (w.drewN nq) := fun nq => by
        rcases HLK.out nq with ⟨h, _⟩ | ⟨f', fb', vv', hf, hr, ha, hfa⟩
        · rw [hg] at h; cases h
        · rw [h2'] at ha
          have : (fb : Int) = (fb' : Int) := by injection ha with ha; injection ha
          obtain rfl : fb = fb' := by omega
          exact hr
      have HQ := Lib.hid (fun nq => HP3.out nq HRC.out f fb vv hg h2' h3')
      clear hg HLK HK0 HP2 HP3 h1' h2' h3'
      go_enter Try.func42, Try.ntmps42
      go_wp2_with fail
      refine HR.out.mono ?_
      rintro e w' ⟨rfl, hw⟩
      obtain rfl := hw.symm
      go_wp2
      go_quiet (fail)
      go_wp2
      exact HQ.out _
  · have HQ := Lib.hid (HP1.out hc)
    obtain ⟨c, hcc⟩ : ∃ c, c = refC S l := ⟨_, rfl⟩
    rw [← hcc] at HR HQ hc
    have hc1 : (c == 0) = false := by simpa using hc
    have hc2 : (c != 0) = true := by simpa using hc
    clear HLK HK0 HP1 HP2 HP3 hvals hcc
    go_enter Try.func42, Try.ntmps42
    go_wp2_with fail
    refine HR.out.mono ?_
    rintro e w' ⟨rfl, hw⟩
    obtain rfl := hw.symm
    go_wp2
    exact HQ.out
end Go.Proofs.Ytfgbaigpmhnoaaa
