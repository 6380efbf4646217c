/- Contract of the reference's Best. -/
import Derived.Test.YtjckcdemkpmheaaDoorRngW
namespace Go.Proofs.YtjckcdemkpmheaaDoor
open Go.RowKit Go.BigFrame
open Ver (cmpV BL parts)

def bestQ (r : List (List Bd)) (l : List ByteArray) (k : Nat) : Int := if mayR r = true then bestN r l k else -1
theorem bestQ_range (r : List (List Bd)) (l : List ByteArray) (k : Nat) : bestQ r l k = -1 ∨ ∃ j : Nat, j < k ∧ bestQ r l k = (j : Int) := by
  unfold bestQ
  split
  · exact bestN_range r l k
  · exact .inl rfl
theorem bestQ_next (r : List (List Bd)) (l : List ByteArray) (k : Nat) : bestQ r l (k + 1) = if allowR r (l.getD k ⟨#[]⟩) = true then (if 0 ≤ bestQ r l k ∧ cmpS (l.getD k ⟨#[]⟩) (l.getD (bestQ r l k).toNat ⟨#[]⟩) ≤ 0 then bestQ r l k else (k : Int)) else bestQ r l k := by
  unfold bestQ allowR
  cases mayR r
  · simp
  · simp only [if_true, Bool.true_and]
    rfl
theorem bestQ_end (r : List (List Bd)) (l : List ByteArray) : bestQ r l l.length = bestR r l := rfl
set_option maxRecDepth 100000 in
set_option maxHeartbeats 1000000 in
theorem refBest_any (r : List (List Bd)) (v lv : Value) (l : List ByteArray) (w : World) (h : RngAt w v r) (hl : Reads w w.heap.size lv (strs l)) (hsz : Short r) (hs : ∀ s ∈ l, s.size ≤ 1000000) :
    Calls Tryd.prog 19 #[v, lv] w fun e w' => e = .returned (.int .i64 (bestR r l)) ∧ Below w.heap.size w w' := by
  have HR := Lib.hid h
  have HSZ := Lib.hid hsz
  have HL := Lib.hid hl
  have HS := Lib.hid hs
  obtain ⟨LA, lc, rfl, hlc, hlm, _, _⟩ := hl
  rw [strs_len] at HL hlc ⊢
  unfold maxLen at hlm
  clear h hsz hs
  go_enter Tryd.func19, Tryd.ntmps19
  go_wp2
  go_loopw [5, 6] (fun b i wr => ∃ (k : Nat), k ≤ l.length ∧ i = .int .i64 (k : Int) ∧ b = .int .i64 (bestQ r l k) ∧ Hid (Below w.heap.size w wr)) (fun _ i _ => l.length - (intOf i).toNat)
  case atStart => exact ⟨0, by omega, rfl, by unfold bestQ bestN; rw [ite_self], Lib.hid (Below.refl _ _)⟩
  case round =>
    obtain ⟨k, hk, rfl, rfl, HB⟩ := hrel
    by_cases hlt : k < l.length
    · have hltI : (k : Int) < (l.length : Int) := by omega
      have hk0 : (0 : Int) ≤ (k : Int) := by omega
      have hrd := (HL.out.below HB.out).more HB.out.size
      obtain ⟨LA', lc', e', _, _, _, hcs⟩ := hrd
      rw [strs_len] at e' hcs
      cases e'
      obtain ⟨ad, rfl, _, hc⟩ := hcs (by omega)
      have hck := hc k _ (strs_get l k hlt)
      have HC := Lib.hid hc
      obtain ⟨s, hss⟩ : ∃ s, s = l.getD k ⟨#[]⟩ := ⟨_, rfl⟩
      have HST := Lib.hid (bestQ_next r l k)
      rw [← hss] at hck HST
      have hsz : s.size ≤ 1000000 := HS.out s (by rw [hss]; exact List.mem_of_getElem? (getD_get l k _ hlt))
      have HAL := Lib.hid (refAllow_any r _ s wr (HR.out.below HB.out) HSZ.out hsz)
      obtain ⟨ok, hok⟩ : ∃ ok, ok = allowR r s := ⟨_, rfl⟩
      rw [← hok] at HAL HST
      have HRG := Lib.hid (bestQ_range r l k)
      obtain ⟨bs, hbs⟩ : ∃ bs, bs = bestQ r l k := ⟨_, rfl⟩
      rw [← hbs] at HST HRG
      rw [← hbs]
      have HBS := Lib.hid hbs
      clear hc hcs hss hok hbs
      cases ok
      · have HN := Lib.hid (show bs = bestQ r l (k + 1) by rw [HST.out, if_neg (by simp)])
        go_wp2_with (go_at_call 17; refine HAL.out.mono ?_; rintro e w3 ⟨rfl, hb3⟩)
        go_roundw
        case rel => exact ⟨k + 1, by omega, by go_num, by rw [HN.out], Lib.hid (below_step HB.out hb3 HB.out.size)⟩
        case measure => simp [intOf]; omega
      · rcases HRG.out with e1 | ⟨j, hj, e1⟩
        · subst e1
          have HN := Lib.hid (show bestQ r l (k + 1) = (k : Int) by rw [HST.out, if_pos rfl, if_neg (by omega)])
          go_wp2_with (go_at_call 17; refine HAL.out.mono ?_; rintro e w3 ⟨rfl, hb3⟩)
          go_roundw
          case rel => exact ⟨k + 1, by omega, by go_num, by rw [HN.out], Lib.hid (below_step HB.out hb3 HB.out.size)⟩
          case measure => simp [intOf]; omega
        · subst e1
          have hj0 : (0 : Int) ≤ (j : Int) := by omega
          have hjI : (j : Int) < (l.length : Int) := by omega
          have hcj := HC.out j _ (strs_get l j (by omega))
          obtain ⟨t, htt⟩ : ∃ t, t = l.getD j ⟨#[]⟩ := ⟨_, rfl⟩
          rw [← htt] at hcj
          have htz : t.size ≤ 1000000 := HS.out t (by rw [htt]; exact List.mem_of_getElem? (getD_get l j _ (by omega)))
          have HTT := Lib.hid htt
          clear htt
          go_upto_region 7 with (go_at_call 17; refine HAL.out.mono ?_; rintro e w3 ⟨rfl, hb3⟩)
          have hbl := block_lt_of_cell (show wr.cell? ⟨(ad.add j).block, (ad.add j).off, (ad.add j).3⟩ = _ from hcj)
          have hblk := block_lt_of_cell (show wr.cell? ⟨(ad.add k).block, (ad.add k).off, (ad.add k).3⟩ = _ from hck)
          have hcj3 := (hb3.cell hbl).trans hcj
          have hck3 := (hb3.cell hblk).trans hck
          have HB3 := Lib.hid hb3
          have hz3 := hb3.size
          have hkk : ∀ w', KeepW w3 w3.heap.size w' → (w'.cell? (ad.add k) = some (.string s) ∧ w'.cell? (ad.add j) = some (.string t)) ∧ KeepW w3 w3.heap.size w' := fun w' h =>
            ⟨⟨(h.1.cell (Nat.lt_of_lt_of_le hblk hz3)).trans hck3, (h.1.cell (Nat.lt_of_lt_of_le hbl hz3)).trans hcj3⟩, h⟩
          have HKK := Lib.hid hkk
          have hk0' : KeepW w3 w3.heap.size w3 := KeepW.start (Nat.le_refl _)
          have htx : ∀ w', KeepW w3 w3.heap.size w' → Calls Tryd.prog 35 #[.string s, .string t] w' fun e w2 => e = .returned (.tuple #[.int .i64 (cmpS s t), .bool (okST s t)]) ∧ KeepW w3 w3.heap.size w2 := fun w' h => h.calls (refTexts_any s t w' hsz htz)
          obtain ⟨cc, hcc⟩ : ∃ cc, cc = cmpS s t := ⟨_, rfl⟩
          rw [← hcc] at htx
          have HTX := Lib.hid htx
          have HCC := Lib.hid hcc
          clear hb3 hcj hck hbl hblk hkk htx hcc hz3
          go_region_held3 (fun w' => (w'.cell? (ad.add k) = some (.string s) ∧ w'.cell? (ad.add j) = some (.string t)) ∧ KeepW w3 w3.heap.size w') (first | exact HKK.out _ (by assumption) | exact HKK.out _ (KeepW.drew (by assumption)) | go_keep) (first | (go_at_call 35; refine (HTX.out _ (by first | assumption | exact KeepW.drew (by assumption))).mono ?_; rintro e w4 ⟨rfl, hk4⟩))
          all_goals
            have HB4 := Lib.hid (below_step (below_step HB.out HB3.out HB.out.size) hk4.1 (Nat.le_trans HB.out.size HB3.out.size))
            by_cases hcm : cc ≤ 0
            · have HN := Lib.hid (show (j : Int) = bestQ r l (k + 1) by rw [HST.out, if_pos (by first | rfl | trivial), if_pos ⟨by omega, by rw [show ((j : Int)).toNat = j by omega, ← HTT.out, ← HCC.out]; exact hcm⟩])
              go_wp2_with fail
              go_roundw
              case rel => exact ⟨k + 1, by omega, by go_num, by rw [HN.out], HB4⟩
              case measure => simp [intOf]; omega
            · have HN := Lib.hid (show bestQ r l (k + 1) = (k : Int) by rw [HST.out, if_pos (by first | rfl | trivial), if_neg (by rw [show ((j : Int)).toNat = j by omega, ← HTT.out, ← HCC.out]; exact fun h => hcm h.2)])
              go_wp2_with fail
              go_roundw
              case rel => exact ⟨k + 1, by omega, by go_num, by rw [HN.out], HB4⟩
              case measure => simp [intOf]; omega
    · have hltI : ¬ (k : Int) < (l.length : Int) := by omega
      have HN := Lib.hid (show bestR r l = bestQ r l k by rw [← bestQ_end, show k = l.length by omega])
      go_wp2
      go_ret
      exact ⟨ret_int HN.out.symm, HB.out⟩
end Go.Proofs.YtjckcdemkpmheaaDoor
