/- disk: step, at each of the closures that it is given. -/
import Derived.Test.YtfgbaigpmhnoaaaDskE0
set_option linter.unusedVariables false
set_option linter.unusedSimpArgs false
namespace Go.Proofs.Ytfgbaigpmhnoaaa
open Go.RowKit Go.BigFrame Go.Maps
open Dsk (Fl St Ok get put drop used)

set_option maxRecDepth 100000 in
set_option maxHeartbeats 1600000 in
theorem step_append (w : World) (base db mb n : Nat) (D : DataW Unit) (av : Value) (ro : Nat → Role) (S S2 : St) (puts : Bool) (p0 p1 p2 p3 : Nat) (h : DiskIn w base db mb n D av ro S) (hs : S.steps < 1000000000) (ha2 : S2.armed = S.armed)
    (hdo : ¬ (S.armed = some 0 ∧ puts = false) → Calls Try.prog 40 #[.pointer (some ⟨p0, 0, none⟩), .pointer (some ⟨p1, 0, none⟩), .pointer (some ⟨p2, 0, none⟩), .pointer (some ⟨p3, 0, none⟩)] (world1 w db S) (DoneR (world1 w db S) base db ro S2 (.tuple #[]))) :
    Calls Try.prog 39 #[.pointer (some ⟨db, 0, none⟩), .bool puts, .func (.func 40) #[] #[.pointer (some ⟨p0, 0, none⟩), .pointer (some ⟨p1, 0, none⟩), .pointer (some ⟨p2, 0, none⟩), .pointer (some ⟨p3, 0, none⟩)]] w (DoneR w base db ro (stepEnd S S2 puts) (.int .i64 (stepC S.armed))) := by
  obtain ⟨h1, hleft⟩ := h.plus hs
  have HL := Lib.hid hleft
  have HP := Lib.hid (fun (c : Int) (S' : St) (w' : World) (hc : c = stepC S.armed) (hS : S' = stepEnd S S2 puts) (ro1 : Nat → Role) (hl : Left w w' base db ro S' ro1) => show DoneR w base db ro (stepEnd S S2 puts) (.int .i64 (stepC S.armed)) (.returned (.int .i64 c)) w' from ⟨by rw [hc], ro1, hS ▸ hl⟩)
  generalize DoneR w base db ro (stepEnd S S2 puts) (.int .i64 (stepC S.armed)) = post at *
  have HDO := Lib.hid hdo
  obtain ⟨_, _, _, c3, c4, _⟩ := h.cells
  have f3 := h.free 3
  obtain ⟨_, _, _, _, d4, _⟩ := h1.cells
  have H1 := Lib.hid h1
  have HA := Lib.hid h1.arm
  have HC := Lib.hid (fun w1 (hd : DiskAt w1 base db ro (plus1 S)) => crash_any w1 base db ro (plus1 S) hd)
  have HS2 := Lib.hid ha2
  have HS := Lib.hid hs
  unfold world1 at d4
  rcases ha : S.armed with _ | k
  · have e1 : av = .pointer none := by
      rcases h.arm with ⟨_, e⟩ | ⟨k, ab, e, _⟩
      · exact e
      · rw [ha] at e; cases e
    subst e1
    have HX := Lib.hid (HDO.out (fun e => by rw [ha] at e; cases e.1))
    unfold DoneR world1 at HX
    have HR := Lib.hid ha
    clear h h1 hleft hdo ha2 HDO HC ha
    go_enter Try.func39, Try.ntmps39
    go_wp2_with fail
    refine HX.out.mono ?_
    rintro e w2 ⟨rfl, ro2, hl2⟩
    obtain ⟨mb2, n2, D2, av2, hd2⟩ := hl2.disk
    obtain ⟨_, _, _, _, g4, _⟩ := hd2.cells
    have e2 : av2 = .pointer none := by
      rcases hd2.arm with ⟨_, e⟩ | ⟨k, ab, e, _⟩
      · exact e
      · rw [HS2.out, HR.out] at e; cases e
    subst e2
    have HQ := Lib.hid (HP.out 0 S2 w2 (by unfold stepC; rw [HR.out]; rfl) (by unfold stepEnd; rw [if_neg (fun e => by rw [HR.out] at e; cases e.1), stepS_none (HS2.out.trans HR.out)]) ro2 (HL.out.trans hl2))
    clear hl2 hd2 HX HP HL HS2 HR
    go_wp2
    exact HQ.out
  · have hex : ∃ ab, av = .pointer (some ⟨ab, 0, none⟩) ∧ ro ab = .arm ∧ (world1 w db S).heap[ab]? = some (.cells #[.int .i64 ((k : Nat) : Int)] 3 (0, 0)) := by
      rcases HA.out with ⟨e, _⟩ | ⟨k', ab, e, e2, e3, e4⟩
      · rw [show (plus1 S).armed = S.armed from rfl, ha] at e; cases e
      · rw [show (plus1 S).armed = S.armed from rfl, ha] at e; cases e; exact ⟨ab, e2, e3, e4⟩
    obtain ⟨ab, rfl, hrab, hbab⟩ := hex
    have hka := blk_cell hbab 0
    unfold world1 at hka
    have HR := Lib.hid ha
    have hne : ab ≠ db := fun e => by rw [e, h.rdb] at hrab; cases hrab
    rcases k with _ | k
    · cases puts with
      | true =>
        have HX := Lib.hid (HDO.out (fun e => by cases e.2))
        unfold DoneR world1 at HX
        have HC2 := Lib.hid (fun w1 ro1 (hd : DiskAt w1 base db ro1 S2) => crash_any w1 base db ro1 S2 hd)
        clear h h1 hleft hdo ha2 HDO HC ha hrab hbab
        go_enter Try.func39, Try.ntmps39
        go_wp2_with fail
        refine HX.out.mono ?_
        rintro e w2 ⟨rfl, ro2, hl2⟩
        have HL2 := Lib.hid (HL.out.trans hl2)
        have HCC := Lib.hid (HC2.out w2 ro2 hl2.disk)
        unfold DoneR at HCC
        clear hl2 HX HC2
        go_wp2_with fail
        refine HCC.out.mono ?_
        rintro e w3 ⟨rfl, ro3, hl3⟩
        have HQ := Lib.hid (HP.out 40 _ w3 (by unfold stepC; rw [HR.out]; rfl) (by unfold stepEnd; rw [if_neg (fun e => by cases e.2), stepS_zero (HS2.out.trans HR.out)]) ro3 (HL2.out.trans hl3))
        clear hl3 HP HL HL2 HCC
        go_wp2
        exact HQ.out
      | false =>
        have HCC := Lib.hid (HC.out _ ⟨mb, n, D, _, H1.out⟩)
        unfold DoneR world1 at HCC
        clear h h1 hleft hdo ha2 HDO HC ha hrab hbab
        go_enter Try.func39, Try.ntmps39
        go_wp2_with fail
        refine HCC.out.mono ?_
        rintro e w3 ⟨rfl, ro3, hl3⟩
        have HQ := Lib.hid (HP.out 40 _ w3 (by unfold stepC; rw [HR.out]; rfl) (by unfold stepEnd; rw [if_pos ⟨HR.out, rfl⟩]) ro3 (HL.out.trans hl3))
        clear hl3 HP HL HCC
        go_wp2
        exact HQ.out
    · have HX := Lib.hid (HDO.out (fun e => by rw [ha] at e; cases e.1))
      unfold DoneR world1 at HX
      have hk0 : ((k + 1 : Nat) : Int) ≠ 0 := by omega
      have hkl := h.ok.arm _ ha
      have hk1 : (((k + 1 : Nat) : Int) == 0) = false := by simpa using hk0
      have hkc : ((k + 1 : Nat) : Int) = (k : Int) + 1 := by omega
      have HK := Lib.hid hkc
      rw [hkc] at hka hk1 hk0
      clear h h1 hleft hdo ha2 HDO HC ha hrab hbab hkc
      go_enter Try.func39, Try.ntmps39
      go_wp2_with fail
      refine HX.out.mono ?_
      rintro e w2 ⟨rfl, ro2, hl2⟩
      obtain ⟨mb2, n2, D2, av2, hd2⟩ := hl2.disk
      obtain ⟨_, _, _, _, g4, _⟩ := hd2.cells
      have hex : ∃ ab, av2 = .pointer (some ⟨ab, 0, none⟩) ∧ ro2 ab = .arm ∧ w2.heap[ab]? = some (.cells #[.int .i64 ((k + 1 : Nat) : Int)] 3 (0, 0)) := by
        rcases hd2.arm with ⟨e, _⟩ | ⟨k', ab, e, e2, e3, e4⟩
        · rw [HS2.out, HR.out] at e; cases e
        · rw [HS2.out, HR.out] at e; cases e; exact ⟨ab, e2, e3, e4⟩
      obtain ⟨ab2, rfl, hr2, hb2⟩ := hex
      have HDN := Lib.hid (Left.down hd2 hr2 (HS2.out.trans HR.out) hb2)
      have k2 := blk_cell hb2 0
      have fk2 := blk_free hb2 0
      rw [HK.out] at k2
      have HQ := Lib.hid (HP.out 0 _ _ (by unfold stepC; rw [HR.out]; rfl) (by unfold stepEnd; rw [if_neg (fun e => by rw [HR.out] at e; cases e.1), stepS_succ (HS2.out.trans HR.out)]) ro2 ((HL.out.trans hl2).trans HDN.out))
      clear hl2 hd2 HX HP HL HS2 HR HDN hr2 hb2
      go_wp2
      exact HQ.out
set_option maxRecDepth 100000 in
set_option maxHeartbeats 1600000 in
theorem step_settle (w : World) (base db mb n : Nat) (D : DataW Unit) (av : Value) (ro : Nat → Role) (S S2 : St) (puts : Bool) (p0 : Nat) (h : DiskIn w base db mb n D av ro S) (hs : S.steps < 1000000000) (ha2 : S2.armed = S.armed)
    (hdo : ¬ (S.armed = some 0 ∧ puts = false) → Calls Try.prog 43 #[.pointer (some ⟨p0, 0, none⟩)] (world1 w db S) (DoneR (world1 w db S) base db ro S2 (.tuple #[]))) :
    Calls Try.prog 39 #[.pointer (some ⟨db, 0, none⟩), .bool puts, .func (.func 43) #[.pointer (some ⟨p0, 0, none⟩)] #[]] w (DoneR w base db ro (stepEnd S S2 puts) (.int .i64 (stepC S.armed))) := by
  obtain ⟨h1, hleft⟩ := h.plus hs
  have HL := Lib.hid hleft
  have HP := Lib.hid (fun (c : Int) (S' : St) (w' : World) (hc : c = stepC S.armed) (hS : S' = stepEnd S S2 puts) (ro1 : Nat → Role) (hl : Left w w' base db ro S' ro1) => show DoneR w base db ro (stepEnd S S2 puts) (.int .i64 (stepC S.armed)) (.returned (.int .i64 c)) w' from ⟨by rw [hc], ro1, hS ▸ hl⟩)
  generalize DoneR w base db ro (stepEnd S S2 puts) (.int .i64 (stepC S.armed)) = post at *
  have HDO := Lib.hid hdo
  obtain ⟨_, _, _, c3, c4, _⟩ := h.cells
  have f3 := h.free 3
  obtain ⟨_, _, _, _, d4, _⟩ := h1.cells
  have H1 := Lib.hid h1
  have HA := Lib.hid h1.arm
  have HC := Lib.hid (fun w1 (hd : DiskAt w1 base db ro (plus1 S)) => crash_any w1 base db ro (plus1 S) hd)
  have HS2 := Lib.hid ha2
  have HS := Lib.hid hs
  unfold world1 at d4
  rcases ha : S.armed with _ | k
  · have e1 : av = .pointer none := by
      rcases h.arm with ⟨_, e⟩ | ⟨k, ab, e, _⟩
      · exact e
      · rw [ha] at e; cases e
    subst e1
    have HX := Lib.hid (HDO.out (fun e => by rw [ha] at e; cases e.1))
    unfold DoneR world1 at HX
    have HR := Lib.hid ha
    clear h h1 hleft hdo ha2 HDO HC ha
    go_enter Try.func39, Try.ntmps39
    go_wp2_with fail
    refine HX.out.mono ?_
    rintro e w2 ⟨rfl, ro2, hl2⟩
    obtain ⟨mb2, n2, D2, av2, hd2⟩ := hl2.disk
    obtain ⟨_, _, _, _, g4, _⟩ := hd2.cells
    have e2 : av2 = .pointer none := by
      rcases hd2.arm with ⟨_, e⟩ | ⟨k, ab, e, _⟩
      · exact e
      · rw [HS2.out, HR.out] at e; cases e
    subst e2
    have HQ := Lib.hid (HP.out 0 S2 w2 (by unfold stepC; rw [HR.out]; rfl) (by unfold stepEnd; rw [if_neg (fun e => by rw [HR.out] at e; cases e.1), stepS_none (HS2.out.trans HR.out)]) ro2 (HL.out.trans hl2))
    clear hl2 hd2 HX HP HL HS2 HR
    go_wp2
    exact HQ.out
  · have hex : ∃ ab, av = .pointer (some ⟨ab, 0, none⟩) ∧ ro ab = .arm ∧ (world1 w db S).heap[ab]? = some (.cells #[.int .i64 ((k : Nat) : Int)] 3 (0, 0)) := by
      rcases HA.out with ⟨e, _⟩ | ⟨k', ab, e, e2, e3, e4⟩
      · rw [show (plus1 S).armed = S.armed from rfl, ha] at e; cases e
      · rw [show (plus1 S).armed = S.armed from rfl, ha] at e; cases e; exact ⟨ab, e2, e3, e4⟩
    obtain ⟨ab, rfl, hrab, hbab⟩ := hex
    have hka := blk_cell hbab 0
    unfold world1 at hka
    have HR := Lib.hid ha
    have hne : ab ≠ db := fun e => by rw [e, h.rdb] at hrab; cases hrab
    rcases k with _ | k
    · cases puts with
      | true =>
        have HX := Lib.hid (HDO.out (fun e => by cases e.2))
        unfold DoneR world1 at HX
        have HC2 := Lib.hid (fun w1 ro1 (hd : DiskAt w1 base db ro1 S2) => crash_any w1 base db ro1 S2 hd)
        clear h h1 hleft hdo ha2 HDO HC ha hrab hbab
        go_enter Try.func39, Try.ntmps39
        go_wp2_with fail
        refine HX.out.mono ?_
        rintro e w2 ⟨rfl, ro2, hl2⟩
        have HL2 := Lib.hid (HL.out.trans hl2)
        have HCC := Lib.hid (HC2.out w2 ro2 hl2.disk)
        unfold DoneR at HCC
        clear hl2 HX HC2
        go_wp2_with fail
        refine HCC.out.mono ?_
        rintro e w3 ⟨rfl, ro3, hl3⟩
        have HQ := Lib.hid (HP.out 40 _ w3 (by unfold stepC; rw [HR.out]; rfl) (by unfold stepEnd; rw [if_neg (fun e => by cases e.2), stepS_zero (HS2.out.trans HR.out)]) ro3 (HL2.out.trans hl3))
        clear hl3 HP HL HL2 HCC
        go_wp2
        exact HQ.out
      | false =>
        have HCC := Lib.hid (HC.out _ ⟨mb, n, D, _, H1.out⟩)
        unfold DoneR world1 at HCC
        clear h h1 hleft hdo ha2 HDO HC ha hrab hbab
        go_enter Try.func39, Try.ntmps39
        go_wp2_with fail
        refine HCC.out.mono ?_
        rintro e w3 ⟨rfl, ro3, hl3⟩
        have HQ := Lib.hid (HP.out 40 _ w3 (by unfold stepC; rw [HR.out]; rfl) (by unfold stepEnd; rw [if_pos ⟨HR.out, rfl⟩]) ro3 (HL.out.trans hl3))
        clear hl3 HP HL HCC
        go_wp2
        exact HQ.out
    · have HX := Lib.hid (HDO.out (fun e => by rw [ha] at e; cases e.1))
      unfold DoneR world1 at HX
      have hk0 : ((k + 1 : Nat) : Int) ≠ 0 := by omega
      have hkl := h.ok.arm _ ha
      have hk1 : (((k + 1 : Nat) : Int) == 0) = false := by simpa using hk0
      have hkc : ((k + 1 : Nat) : Int) = (k : Int) + 1 := by omega
      have HK := Lib.hid hkc
      rw [hkc] at hka hk1 hk0
      clear h h1 hleft hdo ha2 HDO HC ha hrab hbab hkc
      go_enter Try.func39, Try.ntmps39
      go_wp2_with fail
      refine HX.out.mono ?_
      rintro e w2 ⟨rfl, ro2, hl2⟩
      obtain ⟨mb2, n2, D2, av2, hd2⟩ := hl2.disk
      obtain ⟨_, _, _, _, g4, _⟩ := hd2.cells
      have hex : ∃ ab, av2 = .pointer (some ⟨ab, 0, none⟩) ∧ ro2 ab = .arm ∧ w2.heap[ab]? = some (.cells #[.int .i64 ((k + 1 : Nat) : Int)] 3 (0, 0)) := by
        rcases hd2.arm with ⟨e, _⟩ | ⟨k', ab, e, e2, e3, e4⟩
        · rw [HS2.out, HR.out] at e; cases e
        · rw [HS2.out, HR.out] at e; cases e; exact ⟨ab, e2, e3, e4⟩
      obtain ⟨ab2, rfl, hr2, hb2⟩ := hex
      have HDN := Lib.hid (Left.down hd2 hr2 (HS2.out.trans HR.out) hb2)
      have k2 := blk_cell hb2 0
      have fk2 := blk_free hb2 0
      rw [HK.out] at k2
      have HQ := Lib.hid (HP.out 0 _ _ (by unfold stepC; rw [HR.out]; rfl) (by unfold stepEnd; rw [if_neg (fun e => by rw [HR.out] at e; cases e.1), stepS_succ (HS2.out.trans HR.out)]) ro2 ((HL.out.trans hl2).trans HDN.out))
      clear hl2 hd2 HX HP HL HS2 HR HDN hr2 hb2
      go_wp2
      exact HQ.out
set_option maxRecDepth 100000 in
set_option maxHeartbeats 1600000 in
theorem step_rename (w : World) (base db mb n : Nat) (D : DataW Unit) (av : Value) (ro : Nat → Role) (S S2 : St) (puts : Bool) (p0 p1 p2 p3 : Nat) (h : DiskIn w base db mb n D av ro S) (hs : S.steps < 1000000000) (ha2 : S2.armed = S.armed)
    (hdo : ¬ (S.armed = some 0 ∧ puts = false) → Calls Try.prog 45 #[.pointer (some ⟨p0, 0, none⟩), .pointer (some ⟨p1, 0, none⟩), .pointer (some ⟨p2, 0, none⟩), .pointer (some ⟨p3, 0, none⟩)] (world1 w db S) (DoneR (world1 w db S) base db ro S2 (.tuple #[]))) :
    Calls Try.prog 39 #[.pointer (some ⟨db, 0, none⟩), .bool puts, .func (.func 45) #[] #[.pointer (some ⟨p0, 0, none⟩), .pointer (some ⟨p1, 0, none⟩), .pointer (some ⟨p2, 0, none⟩), .pointer (some ⟨p3, 0, none⟩)]] w (DoneR w base db ro (stepEnd S S2 puts) (.int .i64 (stepC S.armed))) := by
  obtain ⟨h1, hleft⟩ := h.plus hs
  have HL := Lib.hid hleft
  have HP := Lib.hid (fun (c : Int) (S' : St) (w' : World) (hc : c = stepC S.armed) (hS : S' = stepEnd S S2 puts) (ro1 : Nat → Role) (hl : Left w w' base db ro S' ro1) => show DoneR w base db ro (stepEnd S S2 puts) (.int .i64 (stepC S.armed)) (.returned (.int .i64 c)) w' from ⟨by rw [hc], ro1, hS ▸ hl⟩)
  generalize DoneR w base db ro (stepEnd S S2 puts) (.int .i64 (stepC S.armed)) = post at *
  have HDO := Lib.hid hdo
  obtain ⟨_, _, _, c3, c4, _⟩ := h.cells
  have f3 := h.free 3
  obtain ⟨_, _, _, _, d4, _⟩ := h1.cells
  have H1 := Lib.hid h1
  have HA := Lib.hid h1.arm
  have HC := Lib.hid (fun w1 (hd : DiskAt w1 base db ro (plus1 S)) => crash_any w1 base db ro (plus1 S) hd)
  have HS2 := Lib.hid ha2
  have HS := Lib.hid hs
  unfold world1 at d4
  rcases ha : S.armed with _ | k
  · have e1 : av = .pointer none := by
      rcases h.arm with ⟨_, e⟩ | ⟨k, ab, e, _⟩
      · exact e
      · rw [ha] at e; cases e
    subst e1
    have HX := Lib.hid (HDO.out (fun e => by rw [ha] at e; cases e.1))
    unfold DoneR world1 at HX
    have HR := Lib.hid ha
    clear h h1 hleft hdo ha2 HDO HC ha
    go_enter Try.func39, Try.ntmps39
    go_wp2_with fail
    refine HX.out.mono ?_
    rintro e w2 ⟨rfl, ro2, hl2⟩
    obtain ⟨mb2, n2, D2, av2, hd2⟩ := hl2.disk
    obtain ⟨_, _, _, _, g4, _⟩ := hd2.cells
    have e2 : av2 = .pointer none := by
      rcases hd2.arm with ⟨_, e⟩ | ⟨k, ab, e, _⟩
      · exact e
      · rw [HS2.out, HR.out] at e; cases e
    subst e2
    have HQ := Lib.hid (HP.out 0 S2 w2 (by unfold stepC; rw [HR.out]; rfl) (by unfold stepEnd; rw [if_neg (fun e => by rw [HR.out] at e; cases e.1), stepS_none (HS2.out.trans HR.out)]) ro2 (HL.out.trans hl2))
    clear hl2 hd2 HX HP HL HS2 HR
    go_wp2
    exact HQ.out
  · have hex : ∃ ab, av = .pointer (some ⟨ab, 0, none⟩) ∧ ro ab = .arm ∧ (world1 w db S).heap[ab]? = some (.cells #[.int .i64 ((k : Nat) : Int)] 3 (0, 0)) := by
      rcases HA.out with ⟨e, _⟩ | ⟨k', ab, e, e2, e3, e4⟩
      · rw [show (plus1 S).armed = S.armed from rfl, ha] at e; cases e
      · rw [show (plus1 S).armed = S.armed from rfl, ha] at e; cases e; exact ⟨ab, e2, e3, e4⟩
    obtain ⟨ab, rfl, hrab, hbab⟩ := hex
    have hka := blk_cell hbab 0
    unfold world1 at hka
    have HR := Lib.hid ha
    have hne : ab ≠ db := fun e => by rw [e, h.rdb] at hrab; cases hrab
    rcases k with _ | k
    · cases puts with
      | true =>
        have HX := Lib.hid (HDO.out (fun e => by cases e.2))
        unfold DoneR world1 at HX
        have HC2 := Lib.hid (fun w1 ro1 (hd : DiskAt w1 base db ro1 S2) => crash_any w1 base db ro1 S2 hd)
        clear h h1 hleft hdo ha2 HDO HC ha hrab hbab
        go_enter Try.func39, Try.ntmps39
        go_wp2_with fail
        refine HX.out.mono ?_
        rintro e w2 ⟨rfl, ro2, hl2⟩
        have HL2 := Lib.hid (HL.out.trans hl2)
        have HCC := Lib.hid (HC2.out w2 ro2 hl2.disk)
        unfold DoneR at HCC
        clear hl2 HX HC2
        go_wp2_with fail
        refine HCC.out.mono ?_
        rintro e w3 ⟨rfl, ro3, hl3⟩
        have HQ := Lib.hid (HP.out 40 _ w3 (by unfold stepC; rw [HR.out]; rfl) (by unfold stepEnd; rw [if_neg (fun e => by cases e.2), stepS_zero (HS2.out.trans HR.out)]) ro3 (HL2.out.trans hl3))
        clear hl3 HP HL HL2 HCC
        go_wp2
        exact HQ.out
      | false =>
        have HCC := Lib.hid (HC.out _ ⟨mb, n, D, _, H1.out⟩)
        unfold DoneR world1 at HCC
        clear h h1 hleft hdo ha2 HDO HC ha hrab hbab
        go_enter Try.func39, Try.ntmps39
        go_wp2_with fail
        refine HCC.out.mono ?_
        rintro e w3 ⟨rfl, ro3, hl3⟩
        have HQ := Lib.hid (HP.out 40 _ w3 (by unfold stepC; rw [HR.out]; rfl) (by unfold stepEnd; rw [if_pos ⟨HR.out, rfl⟩]) ro3 (HL.out.trans hl3))
        clear hl3 HP HL HCC
        go_wp2
        exact HQ.out
    · have HX := Lib.hid (HDO.out (fun e => by rw [ha] at e; cases e.1))
      unfold DoneR world1 at HX
      have hk0 : ((k + 1 : Nat) : Int) ≠ 0 := by omega
      have hkl := h.ok.arm _ ha
      have hk1 : (((k + 1 : Nat) : Int) == 0) = false := by simpa using hk0
      have hkc : ((k + 1 : Nat) : Int) = (k : Int) + 1 := by omega
      have HK := Lib.hid hkc
      rw [hkc] at hka hk1 hk0
      clear h h1 hleft hdo ha2 HDO HC ha hrab hbab hkc
      go_enter Try.func39, Try.ntmps39
      go_wp2_with fail
      refine HX.out.mono ?_
      rintro e w2 ⟨rfl, ro2, hl2⟩
      obtain ⟨mb2, n2, D2, av2, hd2⟩ := hl2.disk
      obtain ⟨_, _, _, _, g4, _⟩ := hd2.cells
      have hex : ∃ ab, av2 = .pointer (some ⟨ab, 0, none⟩) ∧ ro2 ab = .arm ∧ w2.heap[ab]? = some (.cells #[.int .i64 ((k + 1 : Nat) : Int)] 3 (0, 0)) := by
        rcases hd2.arm with ⟨e, _⟩ | ⟨k', ab, e, e2, e3, e4⟩
        · rw [HS2.out, HR.out] at e; cases e
        · rw [HS2.out, HR.out] at e; cases e; exact ⟨ab, e2, e3, e4⟩
      obtain ⟨ab2, rfl, hr2, hb2⟩ := hex
      have HDN := Lib.hid (Left.down hd2 hr2 (HS2.out.trans HR.out) hb2)
      have k2 := blk_cell hb2 0
      have fk2 := blk_free hb2 0
      rw [HK.out] at k2
      have HQ := Lib.hid (HP.out 0 _ _ (by unfold stepC; rw [HR.out]; rfl) (by unfold stepEnd; rw [if_neg (fun e => by rw [HR.out] at e; cases e.1), stepS_succ (HS2.out.trans HR.out)]) ro2 ((HL.out.trans hl2).trans HDN.out))
      clear hl2 hd2 HX HP HL HS2 HR HDN hr2 hb2
      go_wp2
      exact HQ.out
set_option maxRecDepth 100000 in
set_option maxHeartbeats 1600000 in
theorem step_cut (w : World) (base db mb n : Nat) (D : DataW Unit) (av : Value) (ro : Nat → Role) (S S2 : St) (puts : Bool) (p0 p1 p2 : Nat) (h : DiskIn w base db mb n D av ro S) (hs : S.steps < 1000000000) (ha2 : S2.armed = S.armed)
    (hdo : ¬ (S.armed = some 0 ∧ puts = false) → Calls Try.prog 48 #[.pointer (some ⟨p0, 0, none⟩), .pointer (some ⟨p1, 0, none⟩), .pointer (some ⟨p2, 0, none⟩)] (world1 w db S) (DoneR (world1 w db S) base db ro S2 (.tuple #[]))) :
    Calls Try.prog 39 #[.pointer (some ⟨db, 0, none⟩), .bool puts, .func (.func 48) #[] #[.pointer (some ⟨p0, 0, none⟩), .pointer (some ⟨p1, 0, none⟩), .pointer (some ⟨p2, 0, none⟩)]] w (DoneR w base db ro (stepEnd S S2 puts) (.int .i64 (stepC S.armed))) := by
  obtain ⟨h1, hleft⟩ := h.plus hs
  have HL := Lib.hid hleft
  have HP := Lib.hid (fun (c : Int) (S' : St) (w' : World) (hc : c = stepC S.armed) (hS : S' = stepEnd S S2 puts) (ro1 : Nat → Role) (hl : Left w w' base db ro S' ro1) => show DoneR w base db ro (stepEnd S S2 puts) (.int .i64 (stepC S.armed)) (.returned (.int .i64 c)) w' from ⟨by rw [hc], ro1, hS ▸ hl⟩)
  generalize DoneR w base db ro (stepEnd S S2 puts) (.int .i64 (stepC S.armed)) = post at *
  have HDO := Lib.hid hdo
  obtain ⟨_, _, _, c3, c4, _⟩ := h.cells
  have f3 := h.free 3
  obtain ⟨_, _, _, _, d4, _⟩ := h1.cells
  have H1 := Lib.hid h1
  have HA := Lib.hid h1.arm
  have HC := Lib.hid (fun w1 (hd : DiskAt w1 base db ro (plus1 S)) => crash_any w1 base db ro (plus1 S) hd)
  have HS2 := Lib.hid ha2
  have HS := Lib.hid hs
  unfold world1 at d4
  rcases ha : S.armed with _ | k
  · have e1 : av = .pointer none := by
      rcases h.arm with ⟨_, e⟩ | ⟨k, ab, e, _⟩
      · exact e
      · rw [ha] at e; cases e
    subst e1
    have HX := Lib.hid (HDO.out (fun e => by rw [ha] at e; cases e.1))
    unfold DoneR world1 at HX
    have HR := Lib.hid ha
    clear h h1 hleft hdo ha2 HDO HC ha
    go_enter Try.func39, Try.ntmps39
    go_wp2_with fail
    refine HX.out.mono ?_
    rintro e w2 ⟨rfl, ro2, hl2⟩
    obtain ⟨mb2, n2, D2, av2, hd2⟩ := hl2.disk
    obtain ⟨_, _, _, _, g4, _⟩ := hd2.cells
    have e2 : av2 = .pointer none := by
      rcases hd2.arm with ⟨_, e⟩ | ⟨k, ab, e, _⟩
      · exact e
      · rw [HS2.out, HR.out] at e; cases e
    subst e2
    have HQ := Lib.hid (HP.out 0 S2 w2 (by unfold stepC; rw [HR.out]; rfl) (by unfold stepEnd; rw [if_neg (fun e => by rw [HR.out] at e; cases e.1), stepS_none (HS2.out.trans HR.out)]) ro2 (HL.out.trans hl2))
    clear hl2 hd2 HX HP HL HS2 HR
    go_wp2
    exact HQ.out
  · have hex : ∃ ab, av = .pointer (some ⟨ab, 0, none⟩) ∧ ro ab = .arm ∧ (world1 w db S).heap[ab]? = some (.cells #[.int .i64 ((k : Nat) : Int)] 3 (0, 0)) := by
      rcases HA.out with ⟨e, _⟩ | ⟨k', ab, e, e2, e3, e4⟩
      · rw [show (plus1 S).armed = S.armed from rfl, ha] at e; cases e
      · rw [show (plus1 S).armed = S.armed from rfl, ha] at e; cases e; exact ⟨ab, e2, e3, e4⟩
    obtain ⟨ab, rfl, hrab, hbab⟩ := hex
    have hka := blk_cell hbab 0
    unfold world1 at hka
    have HR := Lib.hid ha
    have hne : ab ≠ db := fun e => by rw [e, h.rdb] at hrab; cases hrab
    rcases k with _ | k
    · cases puts with
      | true =>
        have HX := Lib.hid (HDO.out (fun e => by cases e.2))
        unfold DoneR world1 at HX
        have HC2 := Lib.hid (fun w1 ro1 (hd : DiskAt w1 base db ro1 S2) => crash_any w1 base db ro1 S2 hd)
        clear h h1 hleft hdo ha2 HDO HC ha hrab hbab
        go_enter Try.func39, Try.ntmps39
        go_wp2_with fail
        refine HX.out.mono ?_
        rintro e w2 ⟨rfl, ro2, hl2⟩
        have HL2 := Lib.hid (HL.out.trans hl2)
        have HCC := Lib.hid (HC2.out w2 ro2 hl2.disk)
        unfold DoneR at HCC
        clear hl2 HX HC2
        go_wp2_with fail
        refine HCC.out.mono ?_
        rintro e w3 ⟨rfl, ro3, hl3⟩
        have HQ := Lib.hid (HP.out 40 _ w3 (by unfold stepC; rw [HR.out]; rfl) (by unfold stepEnd; rw [if_neg (fun e => by cases e.2), stepS_zero (HS2.out.trans HR.out)]) ro3 (HL2.out.trans hl3))
        clear hl3 HP HL HL2 HCC
        go_wp2
        exact HQ.out
      | false =>
        have HCC := Lib.hid (HC.out _ ⟨mb, n, D, _, H1.out⟩)
        unfold DoneR world1 at HCC
        clear h h1 hleft hdo ha2 HDO HC ha hrab hbab
        go_enter Try.func39, Try.ntmps39
        go_wp2_with fail
        refine HCC.out.mono ?_
        rintro e w3 ⟨rfl, ro3, hl3⟩
        have HQ := Lib.hid (HP.out 40 _ w3 (by unfold stepC; rw [HR.out]; rfl) (by unfold stepEnd; rw [if_pos ⟨HR.out, rfl⟩]) ro3 (HL.out.trans hl3))
        clear hl3 HP HL HCC
        go_wp2
        exact HQ.out
    · have HX := Lib.hid (HDO.out (fun e => by rw [ha] at e; cases e.1))
      unfold DoneR world1 at HX
      have hk0 : ((k + 1 : Nat) : Int) ≠ 0 := by omega
      have hkl := h.ok.arm _ ha
      have hk1 : (((k + 1 : Nat) : Int) == 0) = false := by simpa using hk0
      have hkc : ((k + 1 : Nat) : Int) = (k : Int) + 1 := by omega
      have HK := Lib.hid hkc
      rw [hkc] at hka hk1 hk0
      clear h h1 hleft hdo ha2 HDO HC ha hrab hbab hkc
      go_enter Try.func39, Try.ntmps39
      go_wp2_with fail
      refine HX.out.mono ?_
      rintro e w2 ⟨rfl, ro2, hl2⟩
      obtain ⟨mb2, n2, D2, av2, hd2⟩ := hl2.disk
      obtain ⟨_, _, _, _, g4, _⟩ := hd2.cells
      have hex : ∃ ab, av2 = .pointer (some ⟨ab, 0, none⟩) ∧ ro2 ab = .arm ∧ w2.heap[ab]? = some (.cells #[.int .i64 ((k + 1 : Nat) : Int)] 3 (0, 0)) := by
        rcases hd2.arm with ⟨e, _⟩ | ⟨k', ab, e, e2, e3, e4⟩
        · rw [HS2.out, HR.out] at e; cases e
        · rw [HS2.out, HR.out] at e; cases e; exact ⟨ab, e2, e3, e4⟩
      obtain ⟨ab2, rfl, hr2, hb2⟩ := hex
      have HDN := Lib.hid (Left.down hd2 hr2 (HS2.out.trans HR.out) hb2)
      have k2 := blk_cell hb2 0
      have fk2 := blk_free hb2 0
      rw [HK.out] at k2
      have HQ := Lib.hid (HP.out 0 _ _ (by unfold stepC; rw [HR.out]; rfl) (by unfold stepEnd; rw [if_neg (fun e => by rw [HR.out] at e; cases e.1), stepS_succ (HS2.out.trans HR.out)]) ro2 ((HL.out.trans hl2).trans HDN.out))
      clear hl2 hd2 HX HP HL HS2 HR HDN hr2 hb2
      go_wp2
      exact HQ.out
set_option maxRecDepth 100000 in
set_option maxHeartbeats 1600000 in
theorem step_remove (w : World) (base db mb n : Nat) (D : DataW Unit) (av : Value) (ro : Nat → Role) (S S2 : St) (puts : Bool) (p0 p1 : Nat) (h : DiskIn w base db mb n D av ro S) (hs : S.steps < 1000000000) (ha2 : S2.armed = S.armed)
    (hdo : ¬ (S.armed = some 0 ∧ puts = false) → Calls Try.prog 49 #[.pointer (some ⟨p0, 0, none⟩), .pointer (some ⟨p1, 0, none⟩)] (world1 w db S) (DoneR (world1 w db S) base db ro S2 (.tuple #[]))) :
    Calls Try.prog 39 #[.pointer (some ⟨db, 0, none⟩), .bool puts, .func (.func 49) #[] #[.pointer (some ⟨p0, 0, none⟩), .pointer (some ⟨p1, 0, none⟩)]] w (DoneR w base db ro (stepEnd S S2 puts) (.int .i64 (stepC S.armed))) := by
  obtain ⟨h1, hleft⟩ := h.plus hs
  have HL := Lib.hid hleft
  have HP := Lib.hid (fun (c : Int) (S' : St) (w' : World) (hc : c = stepC S.armed) (hS : S' = stepEnd S S2 puts) (ro1 : Nat → Role) (hl : Left w w' base db ro S' ro1) => show DoneR w base db ro (stepEnd S S2 puts) (.int .i64 (stepC S.armed)) (.returned (.int .i64 c)) w' from ⟨by rw [hc], ro1, hS ▸ hl⟩)
  generalize DoneR w base db ro (stepEnd S S2 puts) (.int .i64 (stepC S.armed)) = post at *
  have HDO := Lib.hid hdo
  obtain ⟨_, _, _, c3, c4, _⟩ := h.cells
  have f3 := h.free 3
  obtain ⟨_, _, _, _, d4, _⟩ := h1.cells
  have H1 := Lib.hid h1
  have HA := Lib.hid h1.arm
  have HC := Lib.hid (fun w1 (hd : DiskAt w1 base db ro (plus1 S)) => crash_any w1 base db ro (plus1 S) hd)
  have HS2 := Lib.hid ha2
  have HS := Lib.hid hs
  unfold world1 at d4
  rcases ha : S.armed with _ | k
  · have e1 : av = .pointer none := by
      rcases h.arm with ⟨_, e⟩ | ⟨k, ab, e, _⟩
      · exact e
      · rw [ha] at e; cases e
    subst e1
    have HX := Lib.hid (HDO.out (fun e => by rw [ha] at e; cases e.1))
    unfold DoneR world1 at HX
    have HR := Lib.hid ha
    clear h h1 hleft hdo ha2 HDO HC ha
    go_enter Try.func39, Try.ntmps39
    go_wp2_with fail
    refine HX.out.mono ?_
    rintro e w2 ⟨rfl, ro2, hl2⟩
    obtain ⟨mb2, n2, D2, av2, hd2⟩ := hl2.disk
    obtain ⟨_, _, _, _, g4, _⟩ := hd2.cells
    have e2 : av2 = .pointer none := by
      rcases hd2.arm with ⟨_, e⟩ | ⟨k, ab, e, _⟩
      · exact e
      · rw [HS2.out, HR.out] at e; cases e
    subst e2
    have HQ := Lib.hid (HP.out 0 S2 w2 (by unfold stepC; rw [HR.out]; rfl) (by unfold stepEnd; rw [if_neg (fun e => by rw [HR.out] at e; cases e.1), stepS_none (HS2.out.trans HR.out)]) ro2 (HL.out.trans hl2))
    clear hl2 hd2 HX HP HL HS2 HR
    go_wp2
    exact HQ.out
  · have hex : ∃ ab, av = .pointer (some ⟨ab, 0, none⟩) ∧ ro ab = .arm ∧ (world1 w db S).heap[ab]? = some (.cells #[.int .i64 ((k : Nat) : Int)] 3 (0, 0)) := by
      rcases HA.out with ⟨e, _⟩ | ⟨k', ab, e, e2, e3, e4⟩
      · rw [show (plus1 S).armed = S.armed from rfl, ha] at e; cases e
      · rw [show (plus1 S).armed = S.armed from rfl, ha] at e; cases e; exact ⟨ab, e2, e3, e4⟩
    obtain ⟨ab, rfl, hrab, hbab⟩ := hex
    have hka := blk_cell hbab 0
    unfold world1 at hka
    have HR := Lib.hid ha
    have hne : ab ≠ db := fun e => by rw [e, h.rdb] at hrab; cases hrab
    rcases k with _ | k
    · cases puts with
      | true =>
        have HX := Lib.hid (HDO.out (fun e => by cases e.2))
        unfold DoneR world1 at HX
        have HC2 := Lib.hid (fun w1 ro1 (hd : DiskAt w1 base db ro1 S2) => crash_any w1 base db ro1 S2 hd)
        clear h h1 hleft hdo ha2 HDO HC ha hrab hbab
        go_enter Try.func39, Try.ntmps39
        go_wp2_with fail
        refine HX.out.mono ?_
        rintro e w2 ⟨rfl, ro2, hl2⟩
        have HL2 := Lib.hid (HL.out.trans hl2)
        have HCC := Lib.hid (HC2.out w2 ro2 hl2.disk)
        unfold DoneR at HCC
        clear hl2 HX HC2
        go_wp2_with fail
        refine HCC.out.mono ?_
        rintro e w3 ⟨rfl, ro3, hl3⟩
        have HQ := Lib.hid (HP.out 40 _ w3 (by unfold stepC; rw [HR.out]; rfl) (by unfold stepEnd; rw [if_neg (fun e => by cases e.2), stepS_zero (HS2.out.trans HR.out)]) ro3 (HL2.out.trans hl3))
        clear hl3 HP HL HL2 HCC
        go_wp2
        exact HQ.out
      | false =>
        have HCC := Lib.hid (HC.out _ ⟨mb, n, D, _, H1.out⟩)
        unfold DoneR world1 at HCC
        clear h h1 hleft hdo ha2 HDO HC ha hrab hbab
        go_enter Try.func39, Try.ntmps39
        go_wp2_with fail
        refine HCC.out.mono ?_
        rintro e w3 ⟨rfl, ro3, hl3⟩
        have HQ := Lib.hid (HP.out 40 _ w3 (by unfold stepC; rw [HR.out]; rfl) (by unfold stepEnd; rw [if_pos ⟨HR.out, rfl⟩]) ro3 (HL.out.trans hl3))
        clear hl3 HP HL HCC
        go_wp2
        exact HQ.out
    · have HX := Lib.hid (HDO.out (fun e => by rw [ha] at e; cases e.1))
      unfold DoneR world1 at HX
      have hk0 : ((k + 1 : Nat) : Int) ≠ 0 := by omega
      have hkl := h.ok.arm _ ha
      have hk1 : (((k + 1 : Nat) : Int) == 0) = false := by simpa using hk0
      have hkc : ((k + 1 : Nat) : Int) = (k : Int) + 1 := by omega
      have HK := Lib.hid hkc
      rw [hkc] at hka hk1 hk0
      clear h h1 hleft hdo ha2 HDO HC ha hrab hbab hkc
      go_enter Try.func39, Try.ntmps39
      go_wp2_with fail
      refine HX.out.mono ?_
      rintro e w2 ⟨rfl, ro2, hl2⟩
      obtain ⟨mb2, n2, D2, av2, hd2⟩ := hl2.disk
      obtain ⟨_, _, _, _, g4, _⟩ := hd2.cells
      have hex : ∃ ab, av2 = .pointer (some ⟨ab, 0, none⟩) ∧ ro2 ab = .arm ∧ w2.heap[ab]? = some (.cells #[.int .i64 ((k + 1 : Nat) : Int)] 3 (0, 0)) := by
        rcases hd2.arm with ⟨e, _⟩ | ⟨k', ab, e, e2, e3, e4⟩
        · rw [HS2.out, HR.out] at e; cases e
        · rw [HS2.out, HR.out] at e; cases e; exact ⟨ab, e2, e3, e4⟩
      obtain ⟨ab2, rfl, hr2, hb2⟩ := hex
      have HDN := Lib.hid (Left.down hd2 hr2 (HS2.out.trans HR.out) hb2)
      have k2 := blk_cell hb2 0
      have fk2 := blk_free hb2 0
      rw [HK.out] at k2
      have HQ := Lib.hid (HP.out 0 _ _ (by unfold stepC; rw [HR.out]; rfl) (by unfold stepEnd; rw [if_neg (fun e => by rw [HR.out] at e; cases e.1), stepS_succ (HS2.out.trans HR.out)]) ro2 ((HL.out.trans hl2).trans HDN.out))
      clear hl2 hd2 HX HP HL HS2 HR HDN hr2 hb2
      go_wp2
      exact HQ.out
end Go.Proofs.Ytfgbaigpmhnoaaa
