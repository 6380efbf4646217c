/- Contracts of ranges.Allows, Best. -/
import Derived.Test.YtjckcdemkpmheaaDoorRngI
namespace Go.Proofs.YtjckcdemkpmheaaDoor
open Go.RowKit Go.BigFrame
open Ver (cmpV BL)

def allowR (r : List (List Bd)) (s : ByteArray) : Bool := mayR r && allowsB r s
theorem tests_yes (r : List (List Bd)) (v : Value) (w : World) (h : RngAt w v r) (hsz : Short r) (hm : mayR r = true) : Calls Tryd.prog 25 #[v] w (TestsYes r w) :=
  (tests_any r v w h hsz).mono fun e w' h => by unfold Tests at h; rwa [if_pos hm] at h
theorem tests_no (r : List (List Bd)) (v : Value) (w : World) (h : RngAt w v r) (hsz : Short r) (hm : mayR r = false) : Calls Tryd.prog 25 #[v] w (TestsNo w) :=
  (tests_any r v w h hsz).mono fun e w' h => by unfold Tests at h; rwa [hm, if_neg (by simp)] at h
set_option maxRecDepth 100000 in
set_option maxHeartbeats 800000 in
theorem allow_any (r : List (List Bd)) (v : Value) (s : ByteArray) (w : World) (h : RngAt w v r) (hsz : Short r) (hs : s.size ≤ 1000000) :
    Calls Tryd.prog 16 #[v, .string s] w fun e w' => e = .returned (.bool (allowR r s)) ∧ Below w.heap.size w w' := by
  cases hm : mayR r
  · have HT := Lib.hid (tests_no r v w h hsz hm)
    have HF := Lib.hid (show allowR r s = false by unfold allowR; rw [hm, Bool.false_and])
    clear h hm hsz
    go_enter Tryd.func16, Tryd.ntmps16
    go_wp2_with (go_at_call 25; refine HT.out.mono ?_; rintro e w2 ⟨rfl, hb2⟩)
    go_ret
    exact ⟨ret_bool HF.out.symm, hb2⟩
  · have HT := Lib.hid (tests_yes r v w h hsz hm)
    have HF := Lib.hid (show allowR r s = allowsB r s by unfold allowR; rw [hm, Bool.true_and])
    have HM := Lib.hid hm
    clear h hm hsz
    go_enter Tryd.func16, Tryd.ntmps16
    go_wp2_with (first | (go_at_call 25; refine HT.out.mono ?_; rintro e w2 ⟨u, rfl, hu, hb2⟩) | (go_at_call 32; refine (allows_any r _ s _ (by assumption) HM.out hs).mono ?_; rintro e w3 ⟨rfl, hb3⟩))
    go_ret
    exact ⟨ret_bool HF.out.symm, below_step hb2 hb3 hb2.size⟩
def bestStep (r : List (List Bd)) (l : List ByteArray) (best : Int) (i : Nat) : Int :=
  if allowsB r (l.getD i ⟨#[]⟩) = true then (if 0 ≤ best ∧ cmpS (l.getD i ⟨#[]⟩) (l.getD best.toNat ⟨#[]⟩) ≤ 0 then best else (i : Int)) else best
def bestN (r : List (List Bd)) (l : List ByteArray) : Nat → Int
  | 0 => -1
  | k + 1 => bestStep r l (bestN r l k) k
def bestR (r : List (List Bd)) (l : List ByteArray) : Int := if mayR r = true then bestN r l l.length else -1
theorem bestN_range (r : List (List Bd)) (l : List ByteArray) : ∀ k, bestN r l k = -1 ∨ ∃ j : Nat, j < k ∧ bestN r l k = (j : Int)
  | 0 => .inl rfl
  | k + 1 => by
    have ih : bestN r l k = -1 ∨ ∃ j : Nat, j < k + 1 ∧ bestN r l k = (j : Int) := (bestN_range r l k).imp id fun ⟨j, h, e⟩ => ⟨j, by omega, e⟩
    unfold bestN bestStep
    split
    · split
      · exact ih
      · exact .inr ⟨k, by omega, rfl⟩
    · exact ih
set_option maxRecDepth 100000 in
set_option maxHeartbeats 1000000 in
theorem best_any (r : List (List Bd)) (v lv : Value) (l : List ByteArray) (w : World) (h : RngAt w v r) (hl : Reads w w.heap.size lv (strs l)) (hsz : Short r) (hs : ∀ s ∈ l, s.size ≤ 1000000) :
    Calls Tryd.prog 18 #[v, lv] w fun e w' => e = .returned (.int .i64 (bestR r l)) ∧ Below w.heap.size w w' := by
  cases hm : mayR r
  · have HT := Lib.hid (tests_no r v w h hsz hm)
    have HF := Lib.hid (show bestR r l = -1 by unfold bestR; rw [hm, if_neg (by simp)])
    clear h hm hsz hl hs
    go_enter Tryd.func18, Tryd.ntmps18
    go_wp2_with (go_at_call 25; refine HT.out.mono ?_; rintro e w2 ⟨rfl, hb2⟩)
    go_ret
    exact ⟨ret_int HF.out.symm, hb2⟩
  · have HT := Lib.hid (tests_yes r v w h hsz hm)
    have HF := Lib.hid (show bestR r l = bestN r l l.length by unfold bestR; rw [hm, if_pos rfl])
    have HM := Lib.hid hm
    have HL := Lib.hid hl
    have HS := Lib.hid hs
    obtain ⟨LA, lc, rfl, hlc, hlm, _, _⟩ := hl
    rw [strs_len] at HL hlc ⊢
    unfold maxLen at hlm
    clear h hm hsz hs
    go_enter Tryd.func18, Tryd.ntmps18
    go_wp2_with (go_at_call 25; refine HT.out.mono ?_; rintro e w2 ⟨u, rfl, hu, hb2⟩)
    have HU := Lib.hid hu
    have HB2 := Lib.hid hb2
    clear hu hb2
    go_loopw [5, 22] (fun b i wr => ∃ (k : Nat), k ≤ l.length ∧ i = .int .i64 (k : Int) ∧ b = .int .i64 (bestN r l k) ∧ Hid (Below w2.heap.size w2 wr)) (fun _ i _ => l.length - (intOf i).toNat)
    case atStart => exact ⟨0, by omega, rfl, rfl, Lib.hid (Below.refl _ _)⟩
    case round =>
      obtain ⟨k, hk, rfl, rfl, HB⟩ := hrel
      by_cases hlt : k < l.length
      · have hltI : (k : Int) < (l.length : Int) := by omega
        have hk0 : (0 : Int) ≤ (k : Int) := by omega
        have hrd := (HL.out.below (below_step HB2.out HB.out HB2.out.size)).more (below_step HB2.out HB.out HB2.out.size).size
        obtain ⟨LA', lc', e', _, _, _, hcs⟩ := hrd
        rw [strs_len] at e' hcs
        cases e'
        obtain ⟨ad, rfl, _, hc⟩ := hcs (by omega)
        have hck := hc k _ (strs_get l k hlt)
        have HC := Lib.hid hc
        obtain ⟨s, hss⟩ : ∃ s, s = l.getD k ⟨#[]⟩ := ⟨_, rfl⟩
        rw [← hss] at hck
        have hsz : s.size ≤ 1000000 := HS.out s (by rw [hss]; exact List.mem_of_getElem? (getD_get l k _ hlt))
        have HAL := Lib.hid (allows_any r u s wr (HU.out.below TRow.keeps HB.out) HM.out hsz)
        obtain ⟨ok, hok⟩ : ∃ ok, ok = allowsB r s := ⟨_, rfl⟩
        rw [← hok] at HAL
        have HST := Lib.hid (show bestN r l (k + 1) = if ok = true then (if 0 ≤ bestN r l k ∧ cmpS s (l.getD (bestN r l k).toNat ⟨#[]⟩) ≤ 0 then bestN r l k else (k : Int)) else bestN r l k by rw [hok, hss]; rfl)
        have HRG := Lib.hid (bestN_range r l k)
        obtain ⟨bs, hbs⟩ : ∃ bs, bs = bestN r l k := ⟨_, rfl⟩
        rw [← hbs] at HST HRG
        rw [← hbs]
        have HBS := Lib.hid hbs
        clear hc hcs hss hok hbs
        cases ok
        · have HN := Lib.hid (show bs = bestN r l (k + 1) by rw [HST.out, if_neg (by simp)])
          go_wp2_with (go_at_call 32; refine HAL.out.mono ?_; rintro e w3 ⟨rfl, hb3⟩)
          go_roundw
          case rel => exact ⟨k + 1, by omega, by go_num, by rw [HN.out], Lib.hid (below_step HB.out hb3 HB.out.size)⟩
          case measure => simp [intOf]; omega
        · rcases HRG.out with e1 | ⟨j, hj, e1⟩
          · subst e1
            have HN := Lib.hid (show bestN r l (k + 1) = (k : Int) by rw [HST.out, if_pos rfl, if_neg (by omega)])
            go_wp2_with (go_at_call 32; refine HAL.out.mono ?_; rintro e w3 ⟨rfl, hb3⟩)
            go_roundw
            case rel => exact ⟨k + 1, by omega, by go_num, by rw [HN.out], Lib.hid (below_step HB.out hb3 HB.out.size)⟩
            case measure => simp [intOf]; omega
          · subst e1
            have hj0 : (0 : Int) ≤ (j : Int) := by omega
            have hjI : (j : Int) < (l.length : Int) := by omega
            have hcj := HC.out j _ (strs_get l j (by omega))
            obtain ⟨t, htt⟩ : ∃ t, t = l.getD j ⟨#[]⟩ := ⟨_, rfl⟩
            rw [← htt] at hcj
            have htz : t.size ≤ 1000000 := HS.out t (by rw [htt]; exact List.mem_of_getElem? (getD_get l j _ (by omega)))
            have HTT := Lib.hid htt
            clear htt
            go_upto_region 10 with (go_at_call 32; refine HAL.out.mono ?_; rintro e w3 ⟨rfl, hb3⟩)
            have hbl := block_lt_of_cell hcj
            have hcj3 := (hb3.cell hbl).trans hcj
            have HB3 := Lib.hid hb3
            clear hb3 hcj hck hbl
            by_cases hcm : cmpS s t ≤ 0
            · have HN := Lib.hid (show (j : Int) = bestN r l (k + 1) by rw [HST.out, if_pos (by first | rfl | trivial), if_pos ⟨by omega, by rw [show ((j : Int)).toNat = j by omega, ← HTT.out]; exact hcm⟩])
              go_wp2_with (go_at_call 20; refine (texts_any s t _ hsz htz).mono ?_; rintro e w4 ⟨rfl, hb4⟩)
              go_roundw
              case rel => exact ⟨k + 1, by omega, by go_num, by rw [HN.out], Lib.hid (below_step (below_step HB.out HB3.out HB.out.size) hb4 (Nat.le_trans HB.out.size HB3.out.size))⟩
              case measure => simp [intOf]; omega
            · have HN := Lib.hid (show bestN r l (k + 1) = (k : Int) by rw [HST.out, if_pos (by first | rfl | trivial), if_neg (by rw [show ((j : Int)).toNat = j by omega, ← HTT.out]; exact fun h => hcm h.2)])
              go_wp2_with (go_at_call 20; refine (texts_any s t _ hsz htz).mono ?_; rintro e w4 ⟨rfl, hb4⟩)
              go_roundw
              case rel => exact ⟨k + 1, by omega, by go_num, by rw [HN.out], Lib.hid (below_step (below_step HB.out HB3.out HB.out.size) hb4 (Nat.le_trans HB.out.size HB3.out.size))⟩
              case measure => simp [intOf]; omega
      · have hltI : ¬ (k : Int) < (l.length : Int) := by omega
        have HN := Lib.hid (show bestR r l = bestN r l k by rw [HF.out, show k = l.length by omega])
        go_wp2
        go_ret
        exact ⟨ret_int HN.out.symm, below_step HB2.out HB.out HB2.out.size⟩
end Go.Proofs.YtjckcdemkpmheaaDoor
