/- cnf: a walk: add. -/
import Derived.Test.YtapaoccpbcjgeaaCnmW
import Derived.Deep.DeepCutAuto
namespace Go.Proofs.Ytapaoccpbcjgeaa
open Go.RowKit Go.BigFrame
open Cnf (at_ Heaped litB leftL heldB)

def AddPost (p : WPar) (cs : List (List Int)) (v x : Int) (S : List Int) (K : Int) (w : World) (e : Ending) (w' : World) : Prop :=
  e = .returned (.tuple #[]) ∧ Below p.base w w' ∧ ∃ rdy' b', WalkAt p cs v w' (if x ∈ S then S else S ++ [x]) rdy' b' K
set_option maxRecDepth 100000 in
set_option maxHeartbeats 4000000 in
theorem wadd_any (p : WPar) (cs : List (List Int)) (v x : Int) (S rdy : List Int) (b : Bool) (K : Int) (w : World) (C : Coh p cs v) (H : WalkX p cs v w S rdy b K x) (hx : litB v x = true) (hS : S.length ≤ 3000000) (hK : K ≤ 6000000) :
    Calls Try.prog 35 #[.pointer (some ⟨p.g, 0, none⟩), .int .i64 x] w (AddPost p cs v x S K w) := by
  obtain ⟨i0, hi, hz0, hz1, hz2⟩ := info_parts infoInt
  have HPS := Lib.hid (fun (e : Ending) (w' : World) (he : e = .returned (.tuple #[])) (h1 : Below p.base w w') (hm : x ∈ S) (rdy' : List Int) (b' : Bool) (h2 : WalkAt p cs v w' S rdy' b' K) => show AddPost p cs v x S K w e w' from ⟨he, h1, rdy', b', by rw [if_pos hm]; exact h2⟩)
  have HPN := Lib.hid (fun (e : Ending) (w' : World) (he : e = .returned (.tuple #[])) (h1 : Below p.base w w') (hm : x ∉ S) (rdy' : List Int) (b' : Bool) (h2 : WalkAt p cs v w' (S ++ [x]) rdy' b' K) => show AddPost p cs v x S K w e w' from ⟨he, h1, rdy', b', by rw [if_neg hm]; exact h2⟩)
  generalize AddPost p cs v x S K w = post at *
  have HC := Lib.hid C
  have HL := Lib.hid hx
  have HLN := Lib.hid (lit_neg hx)
  obtain ⟨⟨sf, rv, yv, hst, hsa⟩, hrd, hme⟩ := H
  have HRD := Lib.hid hrd
  have HME := Lib.hid hme
  have HST := Lib.hid hst
  have HSA := Lib.hid hsa
  have hxs := lit_small C.v1 hx
  have hV : p.V = (2 * v + 2).toNat := C.V
  have hV1 := C.v1
  have hV0 := C.v0
  have hdx : idx x < p.V := by rw [hV]; exact idx_lt hx
  have hdn : idx (-x) < p.V := by rw [hV]; exact idx_lt (lit_neg hx)
  have hVb : p.V ≤ 200002 := by omega
  have hcx := (hst.setAt _ hdx).1
  rw [hsa x hx] at hcx
  have HIX := Lib.hid (fun w' => index_any x w' (by omega) (by omega))
  have HIN := Lib.hid (fun w' => index_any (-x) w' (by omega) (by omega))
  have hwn : IntKind.i64.wrap (-x) = -x := IntWalk.i64_in _ (by omega)
  have hdx' : (idx x : Int) < (p.V : Int) := by omega
  have hdn' : (idx (-x) : Int) < (p.V : Int) := by omega
  have HV := Lib.hid hV
  clear C hx hrd hme hsa hV
  obtain ⟨c0, c1, c2, c3, c4, c5, c6, c7, cf⟩ := hst.cells
  clear c0 c1 c2 c3 c5 c6 c7 cf
  by_cases hm : x ∈ S
  · have HM := Lib.hid hm
    rw [decide_eq_true hm] at hcx
    clear hm hst
    go_enter Try.func35, Try.ntmps35
    go_wp2
    go_quiet ((go_at_call 45; exact Calls.quiet_of_same (HIX.out _)))
    rename_i nq
    go_wp2
    go_end0
    exact HPS.out _ _ rfl (below_drewN (Below.refl _ _) _) HM.out rdy b ⟨⟨sf, rv, yv, HST.out.drewN _, HSA.out⟩, HRD.out.held HM.out, HME.out⟩
  · have HM := Lib.hid hm
    rw [decide_eq_false hm] at hcx
    clear hm hst
    go_enter Try.func35, Try.ntmps35
    go_wp2
    go_quiet ((go_at_call 45; exact Calls.quiet_of_same (HIX.out _)))
    rename_i nq
    have HST1 := Lib.hid (HST.out.drewN nq)
    have HB1 := Lib.hid (below_drewN (Below.refl p.base w) nq)
    have hsz1 : (w.drewN nq).heap.size = w.heap.size := by rw [heap_drewN]
    generalize w.drewN nq = w1 at *
    obtain ⟨c0, c1, c2, c3, c4, c5, c6, c7, cf⟩ := HST1.out.cells
    have hcx1 := HST1.out.setAt _ hdx
    obtain ⟨hcx1, hfx1⟩ := hcx1
    clear c0 c1 c2 c3 c5 c6 c7 cf HST hcx
    have hm1 := HST1.out.lo
    go_upto_region 1 with (fail)
    go_cut [] (fun wx => Hid (WSt p wx S (lefts cs S) (helds cs S) (sf.set (idx x) true) b rv yv rdy) ∧ Hid (Below p.base w wx))
    case first =>
      go_region_with ((go_at_call 45; refine (HIX.out _).mono ?_; rintro e w' ⟨rfl, hw⟩; obtain rfl := hw.symm))
      all_goals
        go_wp2_with fail
        go_meet
        exact ⟨Lib.hid (HST1.out.set_set _ _).drew, Lib.hid (HB1.out.setCell hm1.2.2.2.1 _).drew⟩
    case rest =>
      obtain ⟨HST2, HB2⟩ := hcut
      have HSA2 := Lib.hid (HSA.out.add x (HST1.out.ls.trans HV.out))
      have hsz2 := HB2.out.size
      have hlo2 := HST2.out.lo.2.2.2.2
      clear HST1 HB1 hcx1 hfx1 c4 hm1
      obtain ⟨c0, c1, c2, c3, c4, c5, c6, c7, cf⟩ := HST2.out.cells
      have hf5 := cf 5
      clear c0 c1 c2 c3 c4 c6 c7
      have hgl := block_lt HST2.out.blk
      go_wp2_with (at_builtin; refine wpList_app rfl _ _ 35 rfl p.base 3 i0 (.int .i64 0) 8 Try.underlying35 hi hz0 hz1 hz2 rfl rv S.length (ints S) rfl (HST2.out.row.alloc _) ⟨wc.heap.size, 0, none⟩ 1 1 [.int .i64 x] rfl rfl ?c1 ?c2 ?c3 ?c4 ?c5 ?_)
      case c1 => exact cell_one_at _ _ _ _ (by first | rfl | simp)
      case c2 => intro u hu; simp at hu; subst hu; rfl
      case c3 => unfold maxLen; omega
      case c4 => omega
      case c5 => simp; omega
      intro v' w3 hown3 hgrow3 hmv3
      obtain ⟨gA, gcap, rfl⟩ := own_form hown3
      have hch3 : Ch wc w3 (fun k => rv.ownBlock = some k) := ((Ch.refl wc _).alloc _).grown hgrow3 fun k _ e => e
      have hown3' : w3.ownsRow p.base 3 1 (.slice gA (S.length + 1) gcap) (S ++ [x]).length (ints (S ++ [x])) := by
        rw [ints_snoc, List.length_append]; exact hown3
      have hmv3' : Moved wc rv (.slice gA (S.length + 1) gcap) := (Moved.refl wc rv).trans hmv3 (by simp)
      have HST3 := Lib.hid (HST2.out.row_app x hown3' hch3 hmv3')
      have hng : ¬ (rv.ownBlock = some p.g) := fun e => by have := HST2.out.rt _ e; rw [HST2.out.tg.1] at this; cases this
      have hc5 := hch3.cell c5 (p := ⟨p.g, 5, none⟩) hng
      have hf5' : w3.frozen? ⟨p.g, 5, none⟩ = false := (World.frozen?_of_block (hch3.block p.g hgl hng)).trans hf5
      have HB3 := Lib.hid (((HB2.out.alloc hlo2 (.cells #[.int .i64 x] 3)).grown hgrow3 (by simp; omega) (fun k e => (HST2.out.row.lt k e).1)).setCell (p := ⟨p.g, 5, none⟩) HST2.out.lo.1 (.slice gA (S.length + 1) gcap))
      obtain ⟨sf', hsf'⟩ : ∃ l, l = sf.set (idx x) true := ⟨_, rfl⟩
      rw [← hsf'] at HSA2 HST3
      clear hsf' hgrow3 hmv3 hmv3' hown3 hown3' hng hch3 HST2 HB2 hsz2 hlo2 hgl c5 hf5 cf
      go_upto_region 3 with (fail)
      generalize w3.setCell ⟨p.g, 5, none⟩ (.slice gA (S.length + 1) gcap) = w4 at *
      generalize Value.slice gA (S.length + 1) gcap = v' at *
      clear hc5 hf5'
      obtain ⟨S', hS'⟩ : ∃ l, Hid (l = S ++ [x]) := ⟨_, Lib.hid rfl⟩
      rw [← hS'.out] at HST3 HSA2 HPN
      obtain ⟨c0, c1, c2, c3, c4, c5, c6, c7, cf⟩ := HST3.out.cells
      clear c0 c1 c2 c3 c5 c6 c7 cf
      have hsn := (HST3.out.setAt _ hdn).1
      rw [HSA2.out (-x) HLN.out] at hsn
      obtain ⟨bx, hbx⟩ : ∃ bx, bx = decide (-x ∈ S') := ⟨_, rfl⟩
      have HBX : Hid (bx = decide (-x ∈ S)) := Lib.hid (by
        rw [hbx, hS'.out, decide_eq_decide, List.mem_append, List.mem_singleton]
        exact ⟨fun h => h.resolve_right (by omega), .inl⟩)
      rw [← hbx] at hsn
      clear hbx
      go_quiet ((go_at_call 45; exact Calls.quiet_of_same (HIN.out _)))
      have HST4 := Lib.hid (HST3.out.drewN nq)
      have HB4 := Lib.hid (below_drewN HB3.out nq)
      generalize w4.drewN nq = w5 at *
      clear HST3 HB3 hsn c4
      obtain ⟨c0, c1, c2, c3, c4, c5, c6, c7, cf⟩ := HST4.out.cells
      have hf6 := cf 6
      clear c0 c1 c2 c3 c4 c5 c7 cf
      go_upto_if 41 with (fail)
      go_cut [] (fun wx => Hid (WSt p wx S' (lefts cs S) (helds cs S) sf' (b || bx) v' yv rdy) ∧ Hid (Below p.base w wx))
      case first =>
        cases bx
        · go_wp2_with fail
          go_meet
          exact ⟨Lib.hid (by rw [Bool.or_false]; exact HST4.out), HB4⟩
        · go_wp2_with fail
          go_meet
          exact ⟨Lib.hid (by rw [Bool.or_true]; exact HST4.out.clash true), Lib.hid (HB4.out.setCell HST4.out.lo.1 _)⟩
      case rest =>
        clear HST4 HB4 hf6 c6
        obtain ⟨HST5, HB5⟩ := hcut
        obtain ⟨b1, hb1⟩ : ∃ b1, Hid (b1 = (b || bx)) := ⟨_, Lib.hid rfl⟩
        rw [← hb1.out] at HST5
        obtain ⟨A, cap, hva, hlc, hmc⟩ := HST5.out.am.form
        obtain ⟨c0, c1, c2, c3, c4, c5, c6, c7, cf⟩ := HST5.out.cells
        rw [hva] at c3
        have HVA := Lib.hid hva
        have ham := HST5.out.am
        rw [hva] at ham
        have haml := HC.out.aml
        obtain ⟨ad, u, hA, hcu, hu⟩ := OutS.get ham (idx x) (by omega)
        rw [show p.ams.getD (idx x) default = amongL cs x from HC.out.ams x HL.out] at hu
        obtain ⟨A2, cap2, rfl, hl2, hm2⟩ := RdS.form hu
        subst hA
        have HU := Lib.hid hu
        rw [haml] at c3
        unfold maxLen at hmc hm2
        clear c0 c1 c2 c4 c5 c6 c7 cf hva ham hu haml
        go_wp2
        go_quiet ((go_at_call 45; exact Calls.quiet_of_same (HIX.out _)))
        have HST6 := Lib.hid (HST5.out.drewN nq)
        have HB6 := Lib.hid (below_drewN HB5.out nq)
        have HU6 : Hid (IRow (wc.drewN nq) p.St (.slice A2 (amongL cs x).length cap2) (amongL cs x)) := Lib.hid (IRow.keeps.keep HU.out ((show Ch wc (wc.drewN nq) (fun _ => False) from (Ch.refl wc _).drewN nq).same _ fun _ _ _ h => h))
        generalize wc.drewN nq = w7 at *
        clear HST5 HB5 HU hcu c3
        obtain ⟨am, ham⟩ : ∃ am, Hid (am = amongL cs x) := ⟨_, Lib.hid rfl⟩
        rw [← ham.out] at HU6 hl2
        rw [← ham.out]
        obtain ⟨n2, hn2⟩ : ∃ n2, n2 = am.length := ⟨_, rfl⟩
        have HN2 := Lib.hid hn2
        rw [← hn2] at HU6 hl2
        rw [← hn2]
        clear hn2
        have hpn := HC.out.n
        have hps := HC.out.small
        have HPN2 := Lib.hid hpn
        clear hpn
        go_wp2
        go_loopw [54, 5] (fun iv _ wr => ∃ k : Nat, k ≤ n2 ∧ iv = .int .i64 k ∧ Hid (WSt p wr S' (lefts cs S) (setsT (am.take k) (helds cs S)) sf' b1 v' yv rdy) ∧ Hid (Below p.base w wr) ∧ Hid (IRow wr p.St (.slice A2 n2 cap2) am)) (fun iv _ _ => n2 - (intOf iv).toNat)
        case atStart => exact ⟨0, by omega, rfl, HST6, HB6, HU6⟩
        case round =>
          clear HST6 HB6 HU6
          obtain ⟨k, hk, rfl, HST, HB, HU⟩ := hrel
          by_cases hlt : k < n2
          · obtain ⟨ad2, rfl, hcx⟩ := IRow.get HU.out k (by have := HN2.out; omega)
            obtain ⟨i, hie, hil, him⟩ := among_at cs x k (by rw [← ham.out]; have := HN2.out; omega)
            rw [← ham.out] at hie
            rw [hie] at hcx
            have hip : i < p.n := by have := HPN2.out; omega
            obtain ⟨c0, c1, c2, c3, c4, c5, c6, c7, cf⟩ := HST.out.cells
            obtain ⟨hch, hfh⟩ := HST.out.holdAt i hip
            have hi' : (i : Int) < (p.n : Int) := by omega
            have hk' : (k : Int) < (n2 : Int) := by omega
            have HST2 : Hid (WSt p (wr.setCell ⟨p.gh, i, none⟩ (.bool true)) S' (lefts cs S) (setsT (am.take (k + 1)) (helds cs S)) sf' b1 v' yv rdy) := Lib.hid (by
              rw [take_snocI am k (by have := HN2.out; omega), setsT_snoc, hie, Int.toNat_natCast]
              exact HST.out.hold_set i true)
            have HB2 := Lib.hid (HB.out.setCell (p := ⟨p.gh, i, none⟩) HST.out.lo.2.2.1 (.bool true))
            have HU2 : Hid (IRow (wr.setCell ⟨p.gh, i, none⟩ (.bool true)) p.St (.slice (some ad2) n2 cap2) am) := Lib.hid (IRow.keeps.keep HU.out (((Ch.refl wr (fun q => q = p.gh)).setCell (p := ⟨p.gh, i, none⟩) rfl (.bool true)).same _ fun q _ hq e => by
              rw [e] at hq
              have := HST.out.tg
              unfold WPar.St at hq
              omega))
            clear c0 c1 c3 c4 c5 c6 c7 cf hie him HST HB HU
            go_wp2
            go_roundw
            case rel => exact ⟨k + 1, by omega, by go_num, HST2, HB2, HU2⟩
            case measure => simp [intOf]; omega
          · have HST1 : Hid (WSt p wr S' (lefts cs S) (helds cs S') sf' b1 v' yv rdy) := Lib.hid (by
              have h9 := HST.out
              rw [List.take_of_length_le (by have := HN2.out; omega), ham.out, helds_add, ← hS'.out] at h9
              exact h9)
            have hk' : ¬ (k : Int) < (n2 : Int) := by omega
            clear HST HU ham HN2 hl2 hm2
            obtain ⟨A3, cap3, hva, hlc3, hmc3⟩ := HST1.out.am.form
            obtain ⟨c0, c1, c2, c3, c4, c5, c6, c7, cf⟩ := HST1.out.cells
            rw [hva] at c3
            have ham := HST1.out.am
            rw [hva] at ham
            have haml := HC.out.aml
            obtain ⟨ad, u, hA, hcu, hu⟩ := OutS.get ham (idx (-x)) (by omega)
            rw [show p.ams.getD (idx (-x)) default = amongL cs (-x) from HC.out.ams (-x) HLN.out] at hu
            obtain ⟨A5, cap5, rfl, hl5, hm5⟩ := RdS.form hu
            subst hA
            have HU := Lib.hid hu
            rw [haml] at c3
            unfold maxLen at hmc3 hm5
            clear c0 c1 c2 c4 c5 c6 c7 cf hva ham hu haml
            go_wp2
            go_quiet ((go_at_call 45; exact Calls.quiet_of_same (HIN.out _)))
            have HST6 := Lib.hid (HST1.out.drewN nq)
            have HB6 := Lib.hid (below_drewN HB.out nq)
            have HU6 : Hid (IRow (wr.drewN nq) p.St (.slice A5 (amongL cs (-x)).length cap5) (amongL cs (-x))) := Lib.hid (IRow.keeps.keep HU.out ((show Ch wr (wr.drewN nq) (fun _ => False) from (Ch.refl wr _).drewN nq).same _ fun _ _ _ h => h))
            generalize wr.drewN nq = w8 at *
            clear HST1 HB HU hcu c3
            have HXS := Lib.hid HM.out
            obtain ⟨an, han⟩ : ∃ an, Hid (an = amongL cs (-x)) := ⟨_, Lib.hid rfl⟩
            rw [← han.out] at HU6 hl5
            rw [← han.out]
            obtain ⟨n3, hn3⟩ : ∃ n3, n3 = an.length := ⟨_, rfl⟩
            have HN3 := Lib.hid hn3
            rw [← hn3] at HU6 hl5
            rw [← hn3]
            clear hn3
            go_wp2
            go_loopw [75, 7] (fun iv _ wr => ∃ (k : Nat) (bk : Bool) (yv' : Value) (rdy' : List Int), k ≤ n3 ∧ iv = .int .i64 k ∧ Hid (WSt p wr S' (decs (an.take k) (lefts cs S)) (helds cs S') sf' bk v' yv' rdy') ∧ Hid (Below p.base w wr) ∧ Hid (IRow wr p.St (.slice A5 n3 cap5) an) ∧ Hid (∀ q : Int, q ∈ rdy' ↔ q ∈ rdy ∨ (q ∈ an.take k ∧ (leftL (cs.getD q.toNat []) S').length = 1)) ∧ Hid (bk = (b1 || (an.take k).any fun q => decide ((leftL (cs.getD q.toNat []) S').length = 0))) ∧ Hid ((rdy'.length : Int) + (decs (an.take k) (lefts cs S)).sum ≤ K)) (fun iv _ _ => n3 - (intOf iv).toNat)
            case atStart => exact ⟨0, b1, yv, rdy, by omega, rfl, HST6, HB6, HU6, Lib.hid (fun q => by simp), Lib.hid (by simp), HME⟩
            case round =>
              clear HST6 HB6 HU6
              obtain ⟨k, bk, yv', rdy', hk, rfl, HST, HB, HU, HMR, HBK, HK⟩ := hrel
              by_cases hlt : k < n3
              · obtain ⟨ad5, rfl, hcx⟩ := IRow.get HU.out k (by have := HN3.out; omega)
                obtain ⟨i, hie, hil, him⟩ := among_at cs (-x) k (by rw [← han.out]; have := HN3.out; omega)
                have hda := dec_at cs S x HXS.out k i (by rw [← han.out]; have := HN3.out; omega) hie hil
                rw [← hS'.out, ← han.out] at hda
                have HDN := Lib.hid (decs_nn cs S x HXS.out k)
                rw [← han.out] at hie HDN
                rw [hie] at hcx
                have hip : i < p.n := by have := HPN2.out; omega
                obtain ⟨c0, c1, c2, c3, c4, c5, c6, c7, cf⟩ := HST.out.cells
                obtain ⟨hcl, hfl⟩ := HST.out.leftAt i hip
                have hi' : (i : Int) < (p.n : Int) := by omega
                have hk' : (k : Int) < (n3 : Int) := by omega
                obtain ⟨y, hy⟩ : ∃ y, y = (decs (an.take k) (lefts cs S)).getD i 0 := ⟨_, rfl⟩
                rw [← hy] at hda hcl
                have hyb : y ≤ 9000000000 := by
                  have h8 := HC.out.lens i hil
                  have h7 := left_le' (cs.getD i []) S'
                  omega
                have hwy : IntKind.i64.wrap (y - 1) = y - 1 := IntWalk.i64_in _ (by omega)
                have HST2 : Hid (WSt p (wr.setCell ⟨p.gl, i, none⟩ (.int .i64 (y - 1))) S' (decs (an.take (k + 1)) (lefts cs S)) (helds cs S') sf' bk v' yv' rdy') := Lib.hid (by
                  rw [take_snocI an k (by have := HN3.out; omega), decs_snoc, hie, Int.toNat_natCast, ← hy]
                  exact HST.out.left_set i (y - 1))
                have HLI : Hid ((decs (an.take (k + 1)) (lefts cs S)).getD i 0 = ((leftL (cs.getD i []) S').length : Int)) := Lib.hid (by
                  rw [take_snocI an k (by have := HN3.out; omega), decs_snoc, hie, Int.toNat_natCast, ← hy, getD_set _ _ _ _ _ (by rw [HST.out.ll]; exact hip), if_pos rfl]
                  exact hda.1)
                have HSM : Hid ((decs (an.take (k + 1)) (lefts cs S)).sum = (decs (an.take k) (lefts cs S)).sum - 1) := Lib.hid (by
                  rw [take_snocI an k (by have := HN3.out; omega), decs_snoc, hie, Int.toNat_natCast, sum_set _ _ (by rw [HST.out.ll]; exact hip)]
                  omega)
                have HB2 := Lib.hid (HB.out.setCell (p := ⟨p.gl, i, none⟩) HST.out.lo.2.1 (.int .i64 (y - 1)))
                have HU2 : Hid (IRow (wr.setCell ⟨p.gl, i, none⟩ (.int .i64 (y - 1))) p.St (.slice (some ad5) n3 cap5) an) := Lib.hid (IRow.keeps.keep HU.out (((Ch.refl wr (fun q => q = p.gl)).setCell (p := ⟨p.gl, i, none⟩) rfl (.int .i64 (y - 1))).same _ fun q _ hq e => by
                  rw [e] at hq
                  have := HST.out.tg
                  unfold WPar.St at hq
                  omega))
                have HRL : Hid (rdy'.length ≤ 7000000) := Lib.hid (by have := HDN.out; have := HK.out; omega)
                have HCT := Lib.hid (wcount_any p i S' _ _ sf' bk v' yv' rdy' _ HST2.out hip (by have := HPN2.out; omega) HRL.out)
                rw [HLI.out] at HCT
                have HIE := Lib.hid hie
                clear c0 c2 c3 c4 c5 c6 c7 cf hie him HST HB HU hda hy
                go_wp2_with fail
                refine HCT.out.mono ?_
                rintro e wn ⟨rfl, hbn, hcn, yn, rn, hst, hmn, hln⟩
                obtain ⟨ln, hlen⟩ : ∃ ln, ln = (leftL (cs.getD i []) S').length := ⟨_, rfl⟩
                rw [← hlen] at hst hmn hln
                have HST3 := Lib.hid hst
                have HB3 := Lib.hid (HB2.out.trans hbn)
                have HU3 := Lib.hid (IRow.keeps.keep HU2.out (hcn.same _ fun q _ hq e => e hq))
                have HMR3 : Hid (∀ q : Int, q ∈ rn ↔ q ∈ rdy ∨ (q ∈ an.take (k + 1) ∧ (leftL (cs.getD q.toNat []) S').length = 1)) := Lib.hid (fun q => by
                  rw [hmn, HMR.out, take_snocI an k (by have := HN3.out; omega), List.mem_append, List.mem_singleton, HIE.out]
                  constructor
                  · rintro ((h | ⟨h1, h2⟩) | ⟨h1, h2⟩)
                    · exact .inl h
                    · exact .inr ⟨.inl h1, h2⟩
                    · exact .inr ⟨.inr h1, by rw [h1, Int.toNat_natCast, ← hlen]; omega⟩
                  · rintro (h | ⟨h1 | h1, h2⟩)
                    · exact .inl (.inl h)
                    · exact .inl (.inr ⟨h1, h2⟩)
                    · rw [h1, Int.toNat_natCast, ← hlen] at h2
                      exact .inr ⟨h1, by omega⟩)
                have HBK3 : Hid ((bk || decide ((ln : Int) = 0)) = (b1 || (an.take (k + 1)).any fun q => decide ((leftL (cs.getD q.toNat []) S').length = 0))) := Lib.hid (by
                  rw [HBK.out, take_snocI an k (by have := HN3.out; omega), List.any_append, HIE.out, Bool.or_assoc]
                  congr 2
                  simp only [List.any_cons, List.any_nil, Bool.or_false, Int.toNat_natCast]
                  rw [decide_eq_decide]
                  omega)
                have HK3 : Hid ((rn.length : Int) + (decs (an.take (k + 1)) (lefts cs S)).sum ≤ K) := Lib.hid (by
                  have h1 := HSM.out; have h2 := HK.out
                  by_cases c : (ln : Int) = 1
                  · rw [if_pos c] at hln; omega
                  · rw [if_neg c] at hln; omega)
                clear hst hmn hln hbn hcn hlen HMR HBK HST2 HB2 HU2 HLI HCT HDN
                generalize (bk || decide ((ln : Int) = 0)) = bn at *
                go_wp2
                go_roundw
                case rel => exact ⟨k + 1, bn, yn, rn, by omega, by go_num, HST3, HB3, HU3, HMR3, HBK3, HK3⟩
                case measure => simp [intOf]; omega
              · have hk'' : ¬ (k : Int) < (n3 : Int) := by omega
                have h1 := HMR.out
                have h2 := HBK.out
                have h3 := HK.out
                have h4 := HST.out
                have htk : an.take k = an := List.take_of_length_le (by have := HN3.out; omega)
                rw [htk] at h1 h2 h3 h4
                rw [han.out] at h1 h2 h3 h4
                rw [lefts_add cs S x HXS.out, ← hS'.out] at h3 h4
                have HRD2 := Lib.hid (ready_add (b' := bk) (rdy' := rdy') x HXS.out hxs.1 HRD.out (by rw [← hS'.out]; exact h1) (by rw [← hS'.out, h2, hb1.out, HBX.out]))
                rw [← hS'.out] at HRD2
                have HFIN := Lib.hid (show WalkAt p cs v wr S' rdy' bk K from ⟨⟨sf', v', yv', h4, HSA2.out⟩, HRD2.out, h3⟩)
                clear h1 h2 h3 h4 htk HRD2 HST HMR HBK HK HU
                go_wp2
                go_end0
                exact HPN.out _ _ rfl HB.out HXS.out rdy' bk HFIN.out
end Go.Proofs.Ytapaoccpbcjgeaa
