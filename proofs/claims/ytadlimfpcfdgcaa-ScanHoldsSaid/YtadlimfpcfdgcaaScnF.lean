/- scan: the reference's All. -/
import Derived.Test.YtadlimfpcfdgcaaScnE
import Derived.Test.YtadlimfpcfdgcaaNamJ
set_option linter.unusedVariables false
set_option linter.unusedSimpArgs false
namespace Go.Proofs.Ytadlimfpcfdgcaa
open Go Go.RowKit Go.BigFrame
open Scn (runOf wins winsTo firsts)

theorem let_val (c : UInt8) : letB c = decide (0 ≤ Nam.valI c) := by
  have h : ∀ k : Fin 256, letB (UInt8.ofNat k.1) = decide (0 ≤ Nam.valI (UInt8.ofNat k.1)) := by decide +kernel
  have := h ⟨c.toNat, c.toNat_lt⟩
  simpa using this
theorem okL_win (l : List UInt8) (h : l.length = 32) : Nam.okL (strOf l) = l.all letB := by
  unfold Nam.okL
  rw [show decide ((strOf l).size = 32) = true by rw [strOf_size]; simp [h], Bool.true_and]
  unfold strOf
  rw [show (fun c => decide (0 ≤ Nam.valI c)) = letB from funext fun c => (let_val c).symm]
theorem wins_to (l : List UInt8) (k : Nat) (h : k = 0 ∨ k + 31 ≤ l.length) (hn : ¬ k + 32 ≤ l.length) : winsTo letB 32 l k = wins letB 32 l := Scn.winsTo_all letB 32 l k (by omega)
/-- A part of a row of bytes. -/
theorem BytAt.sub {W : World} {B : Nat} {ad : Addr} {cap : Nat} {l : List UInt8} (h : BytAt W B (.slice (some ad) l.length cap) l) (k n : Nat) (hk : k + n ≤ l.length) :
    BytAt W B (.slice (some (ad.add k)) n (cap - k)) ((l.drop k).take n) := by
  obtain ⟨A, cap', e, h1, h2, h3, h4⟩ := h
  cases e
  have hl : ((l.drop k).take n).length = n := by rw [List.length_take, List.length_drop]; omega
  refine ⟨some (ad.add k), cap - k, by rw [hl], by rw [hl]; omega, by omega, (fun e => by cases e), fun hp => ⟨_, rfl, ?_, fun j hj => ?_⟩⟩
  · rw [hl] at hp
    obtain ⟨ad', e, hb, _⟩ := h4 (by omega)
    cases e
    rw [add_block]; exact hb
  · rw [hl] at hj
    obtain ⟨ad', e, _, hc⟩ := h4 (by omega)
    cases e
    rw [add_two, hc _ (by omega)]
    unfold dOf
    congr 2
    simp [List.getD, List.getElem?_take, hj, List.getElem?_drop]
set_option maxRecDepth 100000 in
set_option maxHeartbeats 4000000 in
theorem refAll_any (v : Value) (l : List UInt8) (B : Nat) (w : World) (hv : BytAt w B v l) (hBw : B ≤ w.heap.size) (hl : l.length ≤ 1000000) :
    Calls Try.prog 8 #[v] w (AllPost w (allF (strOf l))) := by
  have HV := Lib.hid hv
  obtain ⟨A, cap, rfl, hlc, hcm, hAn, hh⟩ := hv
  unfold maxLen at hcm
  clear hh
  go_enter Try.func8, Try.ntmps8
  go_wp2
  go_loopw [3, 4] (fun u i wr => ∃ k : Nat, (k = 0 ∨ k + 31 ≤ l.length) ∧ i = .int .i64 k ∧ Hid (Below w.heap.size w wr) ∧ Hid (wr.ownsRow w.heap.size 9 1 u (firsts ((winsTo letB 32 l k).map strOf)).length (strs (firsts ((winsTo letB 32 l k).map strOf))))) (fun _ i _ => l.length - (intOf i).toNat)
  case atStart => exact ⟨0, .inl rfl, rfl, Lib.hid (Below.refl _ _), Lib.hid (World.ownsRow_nil _ _ _ _)⟩
  case round =>
    obtain ⟨k, hk, rfl, HB, HO⟩ := hrel
    have hw1 : IntKind.i64.wrap ((k : Int) + 32) = (k : Int) + 32 := IntWalk.i64_in _ (by omega)
    have hw2 : IntKind.i64.wrap ((k : Int) + 1) = (k : Int) + 1 := IntWalk.i64_in _ (by omega)
    by_cases hlt : k + 32 ≤ l.length
    · have hlt1 : (k : Int) + 32 ≤ (l.length : Int) := by omega
      cases A with
      | none => have := hAn rfl; omega
      | some ad =>
        have hcv := (HV.out.keep (HB.out.mono hBw) |>.sub k 32 hlt).conv
        have hlw : ((l.drop k).take 32).length = 32 := by rw [List.length_take, List.length_drop]; omega
        have hok := okL_win _ hlw
        have hxs : (strOf ((l.drop k).take 32)).size ≤ maxLen := by rw [strOf_size, hlw]; decide
        obtain ⟨x, hx⟩ : ∃ x, x = strOf ((l.drop k).take 32) := ⟨_, rfl⟩
        rw [← hx] at hcv hok hxs
        have HX := Lib.hid hx
        clear hx
        have HWX := Lib.hid (show ∀ b, ((l.drop k).take 32).all letB = b → Nam.okL x = b from fun b h => hok.trans h)
        clear hok
        cases hall : ((l.drop k).take 32).all letB with
        | false =>
          have HT := Lib.hid (Scn.winsTo_no letB 32 l k hall)
          have HOK := Lib.hid (HWX.out false hall)
          clear hall
          go_wp2_with (first | (go_at_call 19; refine (Nam.refBytes_is false x _ hxs HOK.out).mono ?_; rintro e w2 ⟨rfl, hb2⟩) | (refine wpList_store_row rfl 53 _ _ rfl _ (digA (Nam.outD x) 20) rfl rfl 53 _ (heap_alloc_new _ _) (Nam.info20' _) (Nam.z20_size _) (Nam.digA_ok _ _) ?_; have hb3 := Nam.below_store (Below.refl w2.heap.size w2) (.cells #[Value.int IntKind.u8 0, Value.int IntKind.u8 0, Value.int IntKind.u8 0, Value.int IntKind.u8 0, Value.int IntKind.u8 0, Value.int IntKind.u8 0, Value.int IntKind.u8 0, Value.int IntKind.u8 0, Value.int IntKind.u8 0, Value.int IntKind.u8 0, Value.int IntKind.u8 0, Value.int IntKind.u8 0, Value.int IntKind.u8 0, Value.int IntKind.u8 0, Value.int IntKind.u8 0, Value.int IntKind.u8 0, Value.int IntKind.u8 0, Value.int IntKind.u8 0, Value.int IntKind.u8 0, Value.int IntKind.u8 0] 53) (digA (Nam.outD x) 20) (Nat.le_refl _); generalize World.setRow (World.alloc w2 _) _ _ = w3 at hb3 ⊢))
          go_roundw
          case rel => exact ⟨k + 1, .inr (by omega), by go_num, Lib.hid (below_step (below_step HB.out hb2 HB.out.size) hb3 (Nat.le_trans HB.out.size hb2.size)), Lib.hid (by rw [HT.out]; exact own_below (own_below HO.out hb2 (Nat.le_refl _)) hb3 (Nat.le_refl _))⟩
          case measure => simp [intOf]; omega
        | true =>
          have HT := Lib.hid (Scn.winsTo_yes letB 32 l k hall)
          have HOK := Lib.hid (HWX.out true hall)
          clear hall
          obtain ⟨i0, hi0, hz0, hz1, hzb⟩ := info_parts infoStr
          obtain ⟨L, hL⟩ : ∃ L, L = firsts ((winsTo letB 32 l k).map strOf) := ⟨_, rfl⟩
          have HLX := Lib.hid (show firsts ((winsTo letB 32 l (k + 1)).map strOf) = if isIn x L = true then L else L ++ [x] by
            rw [HT.out, List.map_append, List.map_cons, List.map_nil, ← HX.out, Scn.firsts_snoc, ← hL]
            by_cases h : x ∈ L
            · rw [if_pos h, if_pos ((isIn_iff _ _).2 h)]
            · rw [if_neg h, if_neg (fun e => h ((isIn_iff _ _).1 e))])
          have hLn : L.length ≤ 1000000 := by
            rw [hL]
            refine Nat.le_trans (firsts_len _) ?_
            rw [List.length_map]
            unfold Scn.winsTo
            refine Nat.le_trans (List.length_filter_le _ _) ?_
            simp
            omega
          rw [← hL] at HO
          clear hL HT
          cases hin : isIn x L with
          | true =>
            rw [hin, if_pos rfl] at HLX
            have HIN := Lib.hid hin
            clear hin
            go_wp2_with (first | (go_at_call 19; refine (Nam.refBytes_is true x _ hxs HOK.out).mono ?_; rintro e w2 ⟨rfl, hb2⟩) | (refine wpList_store_row rfl 53 _ _ rfl _ (digA (Nam.outD x) 20) rfl rfl 53 _ (heap_alloc_new _ _) (Nam.info20' _) (Nam.z20_size _) (Nam.digA_ok _ _) ?_; have hb3 := Nam.below_store (Below.refl w2.heap.size w2) (.cells #[Value.int IntKind.u8 0, Value.int IntKind.u8 0, Value.int IntKind.u8 0, Value.int IntKind.u8 0, Value.int IntKind.u8 0, Value.int IntKind.u8 0, Value.int IntKind.u8 0, Value.int IntKind.u8 0, Value.int IntKind.u8 0, Value.int IntKind.u8 0, Value.int IntKind.u8 0, Value.int IntKind.u8 0, Value.int IntKind.u8 0, Value.int IntKind.u8 0, Value.int IntKind.u8 0, Value.int IntKind.u8 0, Value.int IntKind.u8 0, Value.int IntKind.u8 0, Value.int IntKind.u8 0, Value.int IntKind.u8 0] 53) (digA (Nam.outD x) 20) (Nat.le_refl _); generalize World.setRow (World.alloc w2 _) _ _ = w3 at hb3 ⊢; have ho3 := own_below (own_below HO.out hb2 (Nat.le_refl _)) hb3 (Nat.le_refl _)) | (go_at_call 20; refine (refHas_any _ L x _ _ (Reads.own ho3)).mono ?_; rintro e w4 ⟨rfl, nq4, hw4⟩; rw [HIN.out]; have hb4 : Below w3.heap.size w3 w4 := (by rw [hw4]; exact below_drewN (Below.refl _ _) _); clear hw4))
            go_roundw
            case rel => exact ⟨k + 1, .inr (by omega), by go_num, Lib.hid (below_step (below_step (below_step HB.out hb2 HB.out.size) hb3 (Nat.le_trans HB.out.size hb2.size)) hb4 (Nat.le_trans HB.out.size (Nat.le_trans hb2.size hb3.size))), Lib.hid (by rw [HLX.out]; exact own_below ho3 hb4 (Nat.le_refl _))⟩
            case measure => simp [intOf]; omega
          | false =>
            rw [hin, if_neg (by simp)] at HLX
            have HIN := Lib.hid hin
            clear hin
            go_wp2_with (first | (go_at_call 19; refine (Nam.refBytes_is true x _ hxs HOK.out).mono ?_; rintro e w2 ⟨rfl, hb2⟩) | (refine wpList_store_row rfl 53 _ _ rfl _ (digA (Nam.outD x) 20) rfl rfl 53 _ (heap_alloc_new _ _) (Nam.info20' _) (Nam.z20_size _) (Nam.digA_ok _ _) ?_; have hb3 := Nam.below_store (Below.refl w2.heap.size w2) (.cells #[Value.int IntKind.u8 0, Value.int IntKind.u8 0, Value.int IntKind.u8 0, Value.int IntKind.u8 0, Value.int IntKind.u8 0, Value.int IntKind.u8 0, Value.int IntKind.u8 0, Value.int IntKind.u8 0, Value.int IntKind.u8 0, Value.int IntKind.u8 0, Value.int IntKind.u8 0, Value.int IntKind.u8 0, Value.int IntKind.u8 0, Value.int IntKind.u8 0, Value.int IntKind.u8 0, Value.int IntKind.u8 0, Value.int IntKind.u8 0, Value.int IntKind.u8 0, Value.int IntKind.u8 0, Value.int IntKind.u8 0] 53) (digA (Nam.outD x) 20) (Nat.le_refl _); generalize World.setRow (World.alloc w2 _) _ _ = w3 at hb3 ⊢; have ho3 := own_below (own_below HO.out hb2 (Nat.le_refl _)) hb3 (Nat.le_refl _)) | (go_at_call 20; refine (refHas_any _ L x _ _ (Reads.own ho3)).mono ?_; rintro e w4 ⟨rfl, nq4, hw4⟩; rw [HIN.out]; have hb4 : Below w3.heap.size w3 w4 := (by rw [hw4]; exact below_drewN (Below.refl _ _) _); clear hw4; have ho4 := own_below ho3 hb4 (Nat.le_refl _); have hz4 : w.heap.size ≤ w4.heap.size := Nat.le_trans HB.out.size (Nat.le_trans hb2.size (Nat.le_trans hb3.size hb4.size))) | (at_builtin; go_loud (refine wpList_append_own _ rfl _ _ 24 rfl w.heap.size 9 i0 (.string ⟨#[]⟩) 1 16 Try.underlying24 hi0 hz0 hz1 hzb rfl (by decide) _ _ _ rfl (ho4.alloc _) ⟨w4.heap.size, 0, none⟩ 1 1 [.string x] rfl rfl (cell_one_new _ _ _) (by simp [Value.oneCell']) (by unfold maxLen; omega) (by omega) (by simp; omega) ?_); intro v' w5 hown5 hgrow5 _))
            go_roundw
            case rel =>
              have hB4 := below_step (below_step (below_step HB.out hb2 HB.out.size) hb3 (Nat.le_trans HB.out.size hb2.size)) hb4 (Nat.le_trans HB.out.size (Nat.le_trans hb2.size hb3.size))
              refine ⟨k + 1, .inr (by omega), by go_num, Lib.hid ((hB4.alloc hz4 _).grown hgrow5 (by simp; omega) (fun j e => own_ge ho4 e)), Lib.hid ?_⟩
              rw [HLX.out, List.length_append, List.length_singleton]
              unfold strs at hown5 ⊢
              rw [List.map_append]
              exact hown5
            case measure => simp [intOf]; omega
    · have hlt1 : ¬ (k : Int) + 32 ≤ (l.length : Int) := by omega
      have HE := Lib.hid (wins_to l k hk hlt)
      go_wp2
      go_ret
      refine ⟨HB.out, u3, rfl, ?_⟩
      have := HO.out
      rw [HE.out] at this
      unfold allF winB
      rw [show (strOf l).data.toList = l by simp [strOf]]
      exact this
end Go.Proofs.Ytadlimfpcfdgcaa
