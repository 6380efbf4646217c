/- scan: told, Refs. -/
import Derived.Test.YtadlimfpcfdgcaaScnH
set_option linter.unusedVariables false
set_option linter.unusedSimpArgs false
namespace Go.Proofs.Ytadlimfpcfdgcaa
open Go Go.RowKit Go.BigFrame Go.Maps
open Scn (runOf wins winsTo firsts)

theorem headsF_mem {names : List ByteArray} {s : ByteArray} (h : s ∈ names) (ho : Nam.okP s = true) : isIn (Nam.headS s) (headsF names) = true := by
  rw [isIn_iff]
  exact List.mem_map.2 ⟨s, List.mem_filter.2 ⟨h, ho⟩, rfl⟩
theorem toldF_yes (l ws : List ByteArray) (s : ByteArray) (h : (Nam.okP s && isIn (Nam.headS s) ws) = true) : toldF (l ++ [s]) ws = toldF l ws ++ [s] := by
  unfold toldF
  rw [List.filter_append, List.filter_cons, if_pos h, List.filter_nil]
theorem toldF_no (l ws : List ByteArray) (s : ByteArray) (h : (Nam.okP s && isIn (Nam.headS s) ws) = false) : toldF (l ++ [s]) ws = toldF l ws := by
  unfold toldF
  rw [List.filter_append, List.filter_cons, if_neg (by simp [h]), List.filter_nil, List.append_nil]
theorem toldF_len (l ws : List ByteArray) : (toldF l ws).length ≤ l.length := List.length_filter_le _ _
set_option maxRecDepth 100000 in
set_option maxHeartbeats 4000000 in
theorem told_any (a : Value) (names ws ks : List ByteArray) (c : ByteArray → Nat) (fb mb n B : Nat) (w : World) (ha : Reads w B a (strs names)) (hBw : B ≤ w.heap.size) (hs : SmallT names) (hn : names.length ≤ 1000000)
    (hbox : w.heap[fb]? = some (.cells #[.map (some mb)] 70 (0, 0))) (hc : CountAt w mb ks c n) (hk : ks = headsF names) (hcc : ∀ s, 0 < c s ↔ isIn s ks = true ∧ s ∈ ws) :
    Calls Try.prog 24 #[.pointer (some ⟨fb, 0, none⟩), a] w (AllPost w (toldF names ws)) := by
  have HP := Lib.hid (fun (W : World) (v : Value) (hb : Below w.heap.size w W) (h : W.ownsRow w.heap.size 9 1 v (toldF names ws).length (strs (toldF names ws))) => show AllPost w (toldF names ws) (.returned v) W from ⟨hb, v, rfl, h⟩)
  generalize AllPost w (toldF names ws) = post at *
  obtain ⟨A, ca, rfl, hla, hma, hza, hra⟩ := ha
  simp only [strs_len] at *
  have HRA := Lib.hid hra
  have HS := Lib.hid hs
  have HBX := Lib.hid hbox
  have HC := Lib.hid hc
  have HK := Lib.hid (show ∀ s, s ∈ names → Nam.okP s = true → (0 < c (Nam.headS s) ↔ isIn (Nam.headS s) ws = true) from fun s h1 h2 => by
    rw [hcc, hk, headsF_mem h1 h2, isIn_iff]; simp)
  unfold maxLen at hma
  clear hra hs hbox hc hcc hk
  obtain ⟨i0, hi0, hz0, hz1, hzb⟩ := info_parts infoStr
  go_enter Try.func24, Try.ntmps24
  go_wp2
  go_loopw [5, 13] (fun u i wr => ∃ k : Nat, k ≤ names.length ∧ i = .int .i64 k ∧ Hid (Below w.heap.size w wr) ∧ Hid (wr.ownsRow w.heap.size 9 1 u (toldF (names.take k) ws).length (strs (toldF (names.take k) ws)))) (fun _ i _ => names.length - (intOf i).toNat)
  case atStart => exact ⟨0, by omega, rfl, Lib.hid (Below.refl _ _), Lib.hid (World.ownsRow_nil _ _ _ _)⟩
  case round =>
    obtain ⟨k, hk, rfl, HB, HO⟩ := hrel
    have hw1 : IntKind.i64.wrap ((k : Int) + 1) = (k : Int) + 1 := IntWalk.i64_in _ (by omega)
    by_cases hlt : k < names.length
    · obtain ⟨ad, rfl, hbl, hc⟩ := HRA.out (by omega)
      have hcx := (HB.out.cell (by rw [add_block]; omega)).trans (hc k _ (strs_get names k hlt))
      clear hc
      have hi1 : (k : Int) < (names.length : Int) := by omega
      have hi0' : (0 : Int) ≤ (k : Int) := by omega
      have hsz := HS.out _ (getT_mem hlt)
      have HTK := Lib.hid (takeT names k hlt)
      have HM := Lib.hid (getT_mem hlt)
      obtain ⟨x, hx⟩ : ∃ x, x = names.getD k ⟨#[]⟩ := ⟨_, rfl⟩
      rw [← hx] at hcx HTK hsz HM
      clear hx
      have hLn : (toldF (names.take k) ws).length ≤ 1000000 := by have := toldF_len (names.take k) ws; rw [List.length_take] at this; omega
      cases hok : Nam.okP x with
      | true =>
        have hHH : (Nam.headS x).size ≤ maxLen := by rw [Nam.head_size x (by have := Nam.okP_yes x hok; omega)]; decide
        have HKX := Lib.hid (HK.out x HM.out hok)
        have HOK := Lib.hid hok
        clear hok
        have HC2 := Lib.hid (fun (w2 : World) (hb2 : Below wr.heap.size wr w2) => HC.out.block ((hb2.block _ (Nat.lt_of_lt_of_le HC.out.lt HB.out.size)).trans (HB.out.block _ HC.out.lt)))
        cases hin : isIn (Nam.headS x) ws with
        | true =>
          have HT := Lib.hid (toldF_yes (names.take k) ws x (by rw [HOK.out, hin]; rfl))
          have hcp : (0 : Int) < (c (Nam.headS x) : Int) := by have := HKX.out.2 hin; omega
          clear hin
          go_wp2_with (first | (go_at_call 35; refine (Nam.parse_yes x _ hsz HOK.out).mono ?_; rintro e w2 ⟨rfl, hb2⟩; have hc2 : w2.cell? ⟨fb, 0, none⟩ = some (.map (some mb)) := (by rw [cell_of_row _ _ _ _ _ _ ((hb2.block _ (Nat.lt_of_lt_of_le (block_lt HBX.out) HB.out.size)).trans ((HB.out.block _ (block_lt HBX.out)).trans HBX.out))]; rfl); obtain ⟨D, hD1, hD2⟩ := HC2.out w2 hb2; have ho2 := own_below HO.out hb2 (Nat.le_refl _); have hz2 := Nat.le_trans HB.out.size hb2.size; obtain ⟨cc, hlk, hat, _⟩ := hD1.lookup_int keyStr Try.underlying68 Try.underlying3 (zeroInt _) (Go.WideMaps.keyOf_string_mk Try.underlying9 hHH); have hcc : cc = (c (Nam.headS x) : Int) := (by have h := hat.symm.trans (hD2 (Nam.headS x)).2; simpa using h); subst hcc) | (at_builtin; go_loud (refine wpList_append_own _ rfl _ _ 24 rfl w.heap.size 9 i0 (.string ⟨#[]⟩) 1 16 Try.underlying24 hi0 hz0 hz1 hzb rfl (by decide) _ _ _ rfl (ho2.alloc _) ⟨w2.heap.size, 0, none⟩ 1 1 [.string x] rfl rfl (cell_one_new _ _ _) (by simp [Value.oneCell']) (by unfold maxLen; omega) (by omega) (by simp; omega) ?_); intro v' w5 hown5 hgrow5 _))
          go_roundw
          case rel =>
            refine ⟨k + 1, by omega, by go_num, Lib.hid (((below_step HB.out hb2 HB.out.size).alloc hz2 _).grown hgrow5 (by simp; omega) (fun j e => own_ge ho2 e)), Lib.hid ?_⟩
            rw [HTK.out, HT.out, List.length_append, List.length_singleton]
            unfold strs at hown5 ⊢
            rw [List.map_append]
            exact hown5
          case measure => simp [intOf]; omega
        | false =>
          have HT := Lib.hid (toldF_no (names.take k) ws x (by rw [HOK.out, hin]; rfl))
          have hcp : ¬ (0 : Int) < (c (Nam.headS x) : Int) := by
            intro h
            have := HKX.out.1 (by omega)
            rw [hin] at this; cases this
          clear hin
          go_wp2_with ((go_at_call 35; refine (Nam.parse_yes x _ hsz HOK.out).mono ?_; rintro e w2 ⟨rfl, hb2⟩; have hc2 : w2.cell? ⟨fb, 0, none⟩ = some (.map (some mb)) := (by rw [cell_of_row _ _ _ _ _ _ ((hb2.block _ (Nat.lt_of_lt_of_le (block_lt HBX.out) HB.out.size)).trans ((HB.out.block _ (block_lt HBX.out)).trans HBX.out))]; rfl); obtain ⟨D, hD1, hD2⟩ := HC2.out w2 hb2; have ho2 := own_below HO.out hb2 (Nat.le_refl _); have hz2 := Nat.le_trans HB.out.size hb2.size; obtain ⟨cc, hlk, hat, _⟩ := hD1.lookup_int keyStr Try.underlying68 Try.underlying3 (zeroInt _) (Go.WideMaps.keyOf_string_mk Try.underlying9 hHH); have hcc : cc = (c (Nam.headS x) : Int) := (by have h := hat.symm.trans (hD2 (Nam.headS x)).2; simpa using h); subst hcc))
          go_roundw
          case rel => exact ⟨k + 1, by omega, by go_num, Lib.hid (below_step HB.out hb2 HB.out.size), Lib.hid (by rw [HTK.out, HT.out]; exact ho2)⟩
          case measure => simp [intOf]; omega
      | false =>
        have HT := Lib.hid (toldF_no (names.take k) ws x (by rw [hok]; rfl))
        have HOK := Lib.hid hok
        clear hok
        go_wp2_with (go_at_call 35; refine (Nam.parse_no x _ hsz HOK.out).mono ?_; rintro e w2 ⟨rfl, hb2⟩)
        go_roundw
        case rel => exact ⟨k + 1, by omega, by go_num, Lib.hid (below_step HB.out hb2 HB.out.size), Lib.hid (by rw [HTK.out, HT.out]; exact own_below HO.out hb2 (Nat.le_refl _))⟩
        case measure => simp [intOf]; omega
    · have hi1 : ¬ (k : Int) < (names.length : Int) := by omega
      have h := HO.out
      rw [show names.take k = names from List.take_of_length_le (by omega)] at h
      have HQ := Lib.hid h
      clear h
      go_wp2
      exact HP.out _ _ HB.out HQ.out
/-- What Refs answers. -/
def refsF (s : ByteArray) (names : List ByteArray) : List ByteArray := toldF names (winB s)
set_option maxRecDepth 100000 in
set_option maxHeartbeats 4000000 in
theorem refs_any (v a : Value) (l : List UInt8) (names : List ByteArray) (B : Nat) (w : World) (hv : BytAt w B v l) (ha : Reads w B a (strs names)) (hBw : B ≤ w.heap.size) (hs : SmallT names) (hn : names.length ≤ 1000000) (hl : l.length ≤ 1000000) :
    Calls Try.prog 12 #[v, a] w (AllPost w (refsF (strOf l) names)) := by
  have HP := Lib.hid (fun (W W2 : World) (v : Value) (hb : Below w.heap.size w W) (h : AllPost W (refsF (strOf l) names) (.returned v) W2) => show AllPost w (refsF (strOf l) names) (.returned v) W2 from by
    obtain ⟨h1, v', e, h2⟩ := h
    cases e
    exact ⟨below_step hb h1 hb.size, v, rfl, own_base h2 hb.size⟩)
  generalize hq : AllPost w (refsF (strOf l) names) = post at *
  have HV := Lib.hid hv
  have HA := Lib.hid ha
  obtain ⟨A, cap, rfl, hlc, hcm, hAn, hh⟩ := hv
  obtain ⟨A2, ca2, rfl, _, _, _, _⟩ := ha
  clear hh hq
  simp only [strs_len] at *
  go_enter Try.func12, Try.ntmps12
  go_wp2_with (first | (go_at_call 22; refine (find_any _ names B _ HA.out hBw hs hn).mono ?_; rintro e W ⟨hb1, fb, mb, n, rfl, hF, hnn⟩; have hcv := (HV.out.keep (hb1.mono hBw)).conv) | (go_at_call 23; refine (look_any (strOf l) fb mb n _ W (by rw [strOf_size]; exact hl) hF.box hF.ne hF.map (by omega)).mono ?_; rintro e W2 ⟨⟨ve, rfl⟩, hL⟩))
  obtain ⟨hgr, ⟨c, n2, hc1, hc2, hc3, hc4⟩, hbx⟩ := hL
  have hb2 : Below w.heap.size w W2 := hb1.grown hgr hb1.size (fun k e => by cases e; exact hF.mbl)
  have ht := told_any _ names (winB (strOf l)) (headsF names) c fb mb n2 B W2 (HA.out.below (hb2.mono hBw)) (Nat.le_trans hBw hb2.size) hs hn hbx hc1 rfl hc3
  refine ht.mono ?_
  intro e W3 hp
  obtain ⟨v, rfl⟩ : ∃ v, e = .returned v := by obtain ⟨_, v, e1, _⟩ := hp; exact ⟨v, e1⟩
  have HQ := Lib.hid (HP.out W2 W3 v hb2 hp)
  clear hp ht
  go_wp2
  exact HQ.out
end Go.Proofs.Ytadlimfpcfdgcaa
