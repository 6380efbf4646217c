/- files: mayBe of a Link, of a Dir, of any node. -/
import Derived.Test.YtmcafiihicanfaaDoorFilJ
set_option linter.unusedVariables false
set_option linter.unusedSimpArgs false
namespace Go.Proofs.YtmcafiihicanfaaDoor
open Go Go.RowKit Go.BigFrame
open Fil (Es Nd Sp)

theorem any_zero : ∀ l : List UInt8, l.any (· == 0) = decide (0 ≤ Lib.indexByte l 0)
  | [] => rfl
  | b :: l => by
    rw [← Lib.contains_iff_indexByte, List.contains_cons, List.any_cons, any_zero l, ← Lib.contains_iff_indexByte]
    congr 1
    by_cases h : b = 0
    · subst h; rfl
    · rw [beq_eq_false_iff_ne.2 h, beq_eq_false_iff_ne.2 (Ne.symm h)]
theorem add_none (b o k : Nat) : (⟨b, o, none⟩ : Addr).add k = ⟨b, o + k, none⟩ := by
  unfold Addr.add
  split <;> simp_all
set_option maxRecDepth 1000000 in
set_option maxRecDepth 100000 in
set_option maxHeartbeats 4000000 in
theorem mayBe_dir (w : World) (B : Nat) (p : Addr) (nd : Nd) (hp : p.spot = none) (h : NdC w B p nd) (hB : B ≤ w.heap.size) (hpb : p.block < w.heap.size) (hk : nd.k = 4) :
    Calls Tryd.prog 41 #[.pointer (some p)] w fun e W => Below w.heap.size w W ∧ ((Fil.okB nd.k nd.d nd.es = true ∧ ∃ v, e = .returned v) ∨ (Fil.okB nd.k nd.d nd.es = false ∧ e = .panicked wrongCh)) := by
  obtain ⟨h1, h2, ⟨ev, h3, hes⟩, hdm, hkm⟩ := h
  obtain ⟨A, c, rfl, hlc, hcm⟩ := hes.form
  obtain ⟨pb, po, ps⟩ := p
  obtain rfl : ps = none := hp
  rw [show (⟨pb, po, none⟩ : Addr).add 1 = ⟨pb, po + 1, none⟩ from rfl] at h2
  rw [show (⟨pb, po, none⟩ : Addr).add 2 = ⟨pb, po + 2, none⟩ from rfl] at h3
  have hok : Fil.okB nd.k nd.d nd.es = (nd.d.toList.isEmpty && Fil.namesB ⟨#[]⟩ nd.es) := by
    unfold Fil.okB
    rw [if_neg (by omega), if_neg (by omega), if_pos hk]
    congr 1
    have hs := Lib.size_eq nd.d
    rw [Lib.toList_data]
    cases h : nd.d.data.toList with
    | nil => rw [h] at hs; simp at hs; simp [hs]
    | cons a l => rw [h] at hs; simp at hs; simp [hs]
  rw [hok]
  clear hok
  rw [hk] at h1
  clear hk hkm
  have HA := Lib.hid (show 0 < nd.es.len → ∃ ab ao, A = some ⟨ab, ao, none⟩ from fun hp0 => by
    obtain ⟨A', c', e, _, _, _, h5⟩ := hes
    obtain ⟨a, ha, hlt, hcc⟩ := h5 hp0
    injection e with e1 e2 e3
    cases hE : nd.es with
    | nil => rw [hE] at hp0; simp [Es.len] at hp0
    | cons nm k d s n' =>
      rw [hE] at hcc
      have := spot_none hcc.1
      obtain ⟨ab, ao, asp⟩ := a
      obtain rfl : asp = none := this
      exact ⟨ab, ao, e1.trans ha⟩)
  go_enter Tryd.func41, Tryd.ntmps41
  rcases Bool.eq_false_or_eq_true nd.d.toList.isEmpty with he | he
  rotate_left
  · have HP := Lib.hid (show (nd.d.toList.isEmpty && Fil.namesB ⟨#[]⟩ nd.es) = false by rw [he]; rfl)
    rw [HP.out]
    go_wp2_with (first | (refine (callsIn_wide.1 (must_true 0 _)).mono ?_; intro eQ WQ hQ; obtain ⟨hQ1, vQ, hQ2⟩ := hQ; have hQ3 := hQ1.symm; subst hQ3; subst hQ2) | (refine (callsIn_wide.1 (must_false 0 _)).mono ?_; intro eQ WQ hQ; obtain ⟨hQ1, hQ2⟩ := hQ; have hQ3 := hQ1.symm; subst hQ3; subst hQ2))
    exact ⟨rfl, Below.refl _ _, rfl⟩
  rw [show (nd.d.toList.isEmpty && Fil.namesB ⟨#[]⟩ nd.es) = Fil.namesB ⟨#[]⟩ nd.es by rw [he]; rfl]
  go_wp2_with (first | (refine (callsIn_wide.1 (must_true 0 _)).mono ?_; intro eQ WQ hQ; obtain ⟨hQ1, vQ, hQ2⟩ := hQ; have hQ3 := hQ1.symm; subst hQ3; subst hQ2) | (refine (callsIn_wide.1 (must_false 0 _)).mono ?_; intro eQ WQ hQ; obtain ⟨hQ1, hQ2⟩ := hQ; have hQ3 := hQ1.symm; subst hQ3; subst hQ2))
  go_loopg [2, 3, 4, 73] nd.es.len (fun g u2 _ _ u73 wx => ∃ (rest : Es) (last : ByteArray) (i : Nat), u2 = .string last ∧ u73 = .int .i64 (i : Int) ∧ i + g = nd.es.len ∧ Below w.heap.size w wx ∧ Hid (rest.len = g ∧ (0 < g → ∃ a, A = some a ∧ a.block < B ∧ CellsAt w B rest (a.add (4 * i))) ∧ Fil.namesB ⟨#[]⟩ nd.es = Fil.namesB last rest))
  case atStart =>
    refine ⟨nd.es, ⟨#[]⟩, 0, rfl, rfl, by omega, Below.refl _ _, rfl, fun hp => ?_, rfl⟩
    obtain ⟨A', c', e, _, _, _, h5⟩ := hes
    obtain ⟨a, ha, hlt, hcc⟩ := h5 hp
    injection e with e1 e2 e3
    exact ⟨a, e1.trans ha, hlt, by simpa [Addr.add] using hcc⟩
  case round =>
    obtain ⟨rest, last, i, rfl, rfl, hig, hbw, HR⟩ := hrel
    cases gk with
    | zero =>
      have HN := Lib.hid (show Fil.namesB ⟨#[]⟩ nd.es = true by
        obtain ⟨e1, _, e2⟩ := HR.out
        rw [e2]
        cases rest with
        | nil => rfl
        | cons _ _ _ _ _ => simp [Es.len] at e1)
      obtain rfl : i = nd.es.len := by omega
      go_wp2
      go_end0
      exact ⟨hbw, .inl ⟨HN.out, _, rfl⟩⟩
    | succ g =>
      obtain ⟨e1, e2, e3⟩ := HR.out
      cases rest with
      | nil => simp [Es.len] at e1
      | cons nm k d s n' =>
        obtain ⟨a, rfl, hlt, hcc⟩ := e2 (by omega)
        obtain ⟨hc0, _, _, hnm, _, _, _, hct⟩ := hcc
        obtain ⟨ab, ao, hae⟩ := HA.out (by omega)
        obtain rfl : a = ⟨ab, ao, none⟩ := Option.some.inj hae
        clear hae
        have hc0' : wr.cell? ⟨ab, ao + i * 4, none⟩ = some (.string nm) := by
          rw [hbw.cell (p := ⟨ab, ao + i * 4, none⟩) (Nat.lt_of_lt_of_le hlt hB)]
          have : (⟨ab, ao, none⟩ : Addr).add (4 * i) = ⟨ab, ao + i * 4, none⟩ := by rw [Nat.mul_comm]; unfold Addr.add; split <;> simp_all
          rw [← this]
          exact hc0
        have hh3 : wr.cell? ⟨pb, po + 2, none⟩ = some (.slice (some ⟨ab, ao, none⟩) nd.es.len c) := (hbw.cell (p := ⟨pb, po + 2, none⟩) hpb).trans h3
        have hil : i < nd.es.len := by omega
        clear e2 hc0 h1 h2 h3
        have hlen : n'.len = g := by simp [Es.len] at e1; exact e1
        have HCT := Lib.hid hct
        have HI := Lib.hid (And.intro hlt hlen)
        have HE3 := Lib.hid e3
        have HNM := Lib.hid (fun w => name_any nm w)
        have hw1 : IntKind.i64.wrap ((i : Int) + 1) = (i : Int) + 1 := IntWalk.i64_in _ (by unfold maxLen at hcm; omega)
        clear e1 e3 hct hlen hlt hlc hcm hnm
        have hns : Fil.namesB last (.cons nm k d s n') = (!(Op.bytesLess nm.toList last.toList || (nm.toList == last.toList)) && Fil.nameB nm && Fil.namesB nm n') := rfl
        have HNS := Lib.hid hns
        clear hns
        rcases Bool.eq_false_or_eq_true (Op.bytesLess nm.toList last.toList) with hb | hb
        · have HF := Lib.hid (show Fil.namesB ⟨#[]⟩ nd.es = false by rw [HE3.out, HNS.out, hb]; rfl)
          go_wp2_with (first | (refine (callsIn_wide.1 (must_true 0 _)).mono ?_; intro eQ WQ hQ; obtain ⟨hQ1, vQ, hQ2⟩ := hQ; have hQ3 := hQ1.symm; subst hQ3; subst hQ2) | (refine (callsIn_wide.1 (must_false 0 _)).mono ?_; intro eQ WQ hQ; obtain ⟨hQ1, hQ2⟩ := hQ; have hQ3 := hQ1.symm; subst hQ3; subst hQ2))
          exact ⟨rfl, hbw, .inr ⟨HF.out, rfl⟩⟩
        rcases Bool.eq_false_or_eq_true (nm.toList == last.toList) with hq | hq
        · have HF := Lib.hid (show Fil.namesB ⟨#[]⟩ nd.es = false by rw [HE3.out, HNS.out, hb, hq]; rfl)
          go_wp2_with (first | (refine (callsIn_wide.1 (must_true 0 _)).mono ?_; intro eQ WQ hQ; obtain ⟨hQ1, vQ, hQ2⟩ := hQ; have hQ3 := hQ1.symm; subst hQ3; subst hQ2) | (refine (callsIn_wide.1 (must_false 0 _)).mono ?_; intro eQ WQ hQ; obtain ⟨hQ1, hQ2⟩ := hQ; have hQ3 := hQ1.symm; subst hQ3; subst hQ2))
          exact ⟨rfl, hbw, .inr ⟨HF.out, rfl⟩⟩
        rcases Bool.eq_false_or_eq_true (Fil.nameB nm) with hn | hn
        · have HT := Lib.hid (show Fil.namesB ⟨#[]⟩ nd.es = Fil.namesB nm n' by rw [HE3.out, HNS.out, hb, hq, hn]; rfl)
          go_wp2_with (first | (go_at_call 10; refine (HNM.out _).mono ?_; rintro e W2 ⟨rfl, hb2⟩; rw [hn]) | (first | (refine (callsIn_wide.1 (must_true 0 _)).mono ?_; intro eQ WQ hQ; obtain ⟨hQ1, vQ, hQ2⟩ := hQ; have hQ3 := hQ1.symm; subst hQ3; subst hQ2) | (refine (callsIn_wide.1 (must_false 0 _)).mono ?_; intro eQ WQ hQ; obtain ⟨hQ1, hQ2⟩ := hQ; have hQ3 := hQ1.symm; subst hQ3; subst hQ2)))
          go_roundg g
          case measure => omega
          case rel =>
            refine ⟨n', nm, i + 1, rfl, by simp, by omega, hbw.trans (hb2.mono hbw.size), HI.out.2, fun hp => ⟨_, rfl, HI.out.1, ?_⟩, HT.out⟩
            have e : (⟨ab, ao, none⟩ : Addr).add (4 * (i + 1)) = ((⟨ab, ao, none⟩ : Addr).add (4 * i)).add 4 := by rw [add_none, add_none, add_none]; rw [show ao + 4 * (i + 1) = ao + 4 * i + 4 by omega]
            rw [e]
            exact HCT.out
        · have HF := Lib.hid (show Fil.namesB ⟨#[]⟩ nd.es = false by rw [HE3.out, HNS.out, hb, hq, hn]; rfl)
          go_wp2_with (first | (go_at_call 10; refine (HNM.out _).mono ?_; rintro e W2 ⟨rfl, hb2⟩; rw [hn]) | (first | (refine (callsIn_wide.1 (must_true 0 _)).mono ?_; intro eQ WQ hQ; obtain ⟨hQ1, vQ, hQ2⟩ := hQ; have hQ3 := hQ1.symm; subst hQ3; subst hQ2) | (refine (callsIn_wide.1 (must_false 0 _)).mono ?_; intro eQ WQ hQ; obtain ⟨hQ1, hQ2⟩ := hQ; have hQ3 := hQ1.symm; subst hQ3; subst hQ2)))
          exact ⟨rfl, hbw.trans (hb2.mono hbw.size), .inr ⟨HF.out, rfl⟩⟩
end Go.Proofs.YtmcafiihicanfaaDoor
