/- The walk of the law FieldsBack. -/
import Derived.Test.YtohojfgceaajfaaFldN
namespace Go.Proofs.Ytohojfgceaajfaa
open Go.RowKit

theorem totL_mono (x : Nat → It) (i j : Nat) (h : i ≤ j) : totL x i ≤ totL x j := by
  induction j with
  | zero => rw [show i = 0 by omega]; exact Nat.le_refl _
  | succ j ih =>
    by_cases e : i = j + 1
    · subst e; exact Nat.le_refl _
    · have := ih (by omega); rw [totL]; omega
theorem totD_at (x : Nat → It) (m k i : Nat) (hk : k < m) (hi : i < itLen (x k)) : totD x m (totL x k + i) = itB (x k) i := by
  induction m with
  | zero => omega
  | succ m ih =>
    rw [totD]
    by_cases e : k = m
    · subst e; exact join_at _ _ _ _
    · have h1 := totL_mono x (k + 1) m (by omega)
      rw [totL] at h1
      rw [join_low _ _ _ _ (by omega)]
      exact ih (by omega)
theorem txt_congr (d e : Nat → Nat) (n : Nat) (h : ∀ i, i < n → d i = e i) : txt d n = txt e n := by
  unfold txt
  exact List.map_congr_left fun i hi => by rw [h i (by simpa using hi)]
theorem shift_shift (a b : Nat) (d : Nat → Nat) : shiftD b (shiftD a d) = shiftD (a + b) d := by
  funext i; simp [shiftD, Nat.add_assoc]

def ReadYes (w : World) (g n k : Nat) (d : Nat → Nat) (N : Nat) (S : ByteArray) (e : Ending) (w' : World) : Prop :=
  e = .returned (.tuple #[.int .u64 (N : Int), .string S]) ∧ Rd w' g (n - k) (shiftD k d) false ∧ KeptBut w w' g none
theorem reads_yes (x : It) (k N : Nat) (S : ByteArray) (hask : ask x = (k : Int)) (hnu : x.num < 18446744073709551616) (w : World) (g n : Nat) (d : Nat → Nat) (hd : ∀ i, d i < 256) (hR : Rd w g n d false) (hkn : k ≤ n) (hn : n ≤ 20000) (hN : readN x d k = N) (hS : readS x d k = S) :
    Calls Try.prog 16 #[.pointer (some ⟨g, 0, none⟩), .agg #[.int .u8 (x.kind : Int), .int .u64 (x.num : Int), .slice x.A x.n x.cap]] w fun e w' => ReadYes w g n k d N S e w' :=
  (reads_any x hnu w g n d false hd hR (fun h => by cases h) hn).mono fun e w' h => by
    obtain ⟨h1, h2⟩ := h
    rw [hask, if_pos ⟨rfl, by omega, by omega⟩, Int.toNat_natCast, hN, hS] at h2
    exact ⟨h2.1, h2.2, h1⟩

def RawYes (w : World) (g n k : Nat) (d : Nat → Nat) (e : Ending) (w' : World) : Prop :=
  ∃ v, e = .returned v ∧ w'.ownsRow w.heap.size 5 1 v k (cells d k) ∧ Rd w' g (n - k) (shiftD k d) false ∧ KeptBut w w' g none
theorem rRaw_yes (k : Nat) (w : World) (g n : Nat) (d : Nat → Nat) (hR : Rd w g n d false) (hk : k ≤ n) (hk2 : k ≤ 20000) :
    Calls Try.prog 21 #[.pointer (some ⟨g, 0, none⟩), .int .i64 (k : Int)] w fun e w' => RawYes w g n k d e w' :=
  (rRaw_ok k w g n d hR hk hk2).mono fun e w' h => by
    obtain ⟨h1, h2⟩ := h
    rw [if_pos ⟨rfl, by omega, by omega⟩, Int.toNat_natCast] at h2
    obtain ⟨⟨v, e1, e2⟩, h3⟩ := h2
    exact ⟨v, e1, e2, h3, h1⟩

theorem fieldsBack_a (x : Nat → It) (LA : Option Addr) (ln lcap : Nat) (B : Option Addr) (m c : Nat) (w : World) (hlc : lcap ≤ maxLen) (hl : ln ≤ lcap) (hI : Items w w.heap.size LA ln x) (hL : largeB x ln = true) :
    Calls Try.prog 5 #[.slice LA ln lcap, .slice B m c] w fun e w' => e = .returned (.bool true) ∧ Below w.heap.size w w' := by
  have HC := Lib.hid (large_any x LA ln lcap hlc hl w w.heap.size hI)
  rw [hL] at HC
  clear hI hL
  go_enter Try.func5, Try.ntmps5
  go_wp2_with fail
  refine HC.out.mono ?_
  rintro e w1 ⟨rfl, rfl⟩
  go_wp2_with fail
  refine (works_any _).mono ?_
  rintro e w4 ⟨rfl, hb4⟩
  go_wp2_with fail
  go_ret
  exact ⟨rfl, hb4⟩
theorem fieldsBack_b (x : Nat → It) (LA : Option Addr) (ln lcap : Nat) (B : Option Addr) (m c : Nat) (w : World) (hlc : lcap ≤ maxLen) (hl : ln ≤ lcap) (hI : Items w w.heap.size LA ln x) (hL : largeB x ln = false) (hm : 3000 < m) :
    Calls Try.prog 5 #[.slice LA ln lcap, .slice B m c] w fun e w' => e = .returned (.bool true) ∧ Below w.heap.size w w' := by
  have HC := Lib.hid (large_any x LA ln lcap hlc hl w w.heap.size hI)
  rw [hL] at HC
  clear hI hL
  go_enter Try.func5, Try.ntmps5
  go_wp2_with fail
  refine HC.out.mono ?_
  rintro e w1 ⟨rfl, rfl⟩
  go_wp2_with fail
  refine (works_any _).mono ?_
  rintro e w4 ⟨rfl, hb4⟩
  go_wp2_with fail
  go_ret
  exact ⟨rfl, hb4⟩

set_option maxRecDepth 100000 in
set_option maxHeartbeats 2000000 in
theorem fieldsBack_c (x : Nat → It) (LA : Option Addr) (ln lcap : Nat) (bd : Nat → Nat) (Bh : Option Addr) (m c : Nat) (w : World) (hlc : lcap ≤ maxLen) (hl : ln ≤ lcap) (hI : Items w w.heap.size LA ln x) (hL : largeB x ln = false) (hbd : ∀ i, bd i < 256) (hmc : m ≤ c) (hcm : c ≤ maxLen) (hr : Holds w w.heap.size Bh m bd) (hA : Bh = none → c = 0) (hm : m ≤ 3000) :
    Calls Try.prog 5 #[.slice LA ln lcap, .slice Bh m c] w fun e w' => e = .returned (.bool true) ∧ Below w.heap.size w w' := by
  have HC := Lib.hid (large_any x LA ln lcap hlc hl w w.heap.size hI)
  rw [hL] at HC
  have hsm : ln ≤ 100 ∧ sumN x ln ≤ 3000 := by simp [largeB] at hL; omega
  obtain ⟨h100, hs3⟩ := hsm
  have HS3 := Lib.hid hs3
  have HI := Lib.hid hI
  have HL := Lib.hid hl
  have HBD := Lib.hid hbd
  have HR := Lib.hid hr
  have HA := Lib.hid hA
  have HMC := Lib.hid hmc
  have htl := totL_le x ln
  have HTL : Hid (∀ k, k ≤ ln → totL x k ≤ 4000) := Lib.hid fun k hk => by have := totL_mono x k ln hk; omega
  have HXD : Hid (∀ k, k < ln → ∀ i, (x k).d i < 256) := Lib.hid fun k hk => by
    obtain ⟨_, _, _, hokq, _⟩ := items_cells hI hk
    exact hokq.2.2.1
  clear hI hL hs3 hlc hl hbd hr hA hmc htl hcm
  have hdm : decide (3000 < (m : Int)) = false := decide_eq_false (by omega)
  go_enter Try.func5, Try.ntmps5
  go_wp2_with fail
  refine HC.out.mono ?_
  rintro e w1 ⟨rfl, rfl⟩
  go_wp2_with fail
  have hT0 := wr_new w
  have hb0 := below_alloc1 w (.cells #[.slice none 0 0] 27)
  have HT0 : Hid (Wr (w.alloc (.cells #[.slice none 0 0] 27)) w.heap.size (w.heap.size + 1) (.slice none 0 0) (totL x 0) (totD x 0)) := Lib.hid hT0
  generalize (w.alloc (.cells #[.slice none 0 0] 27)) = w0 at *
  clear hT0
  go_loopw [6] (fun i wr => ∃ k : Nat, k ≤ ln ∧ i = .int .i64 k ∧ (∃ v, Hid (Wr wr w.heap.size (w.heap.size + 1) v (totL x k) (totD x k))) ∧ Below w.heap.size w wr) (fun i _ => ln - (intOf i).toNat)
  case atStart => exact ⟨0, by omega, rfl, ⟨_, HT0⟩, hb0⟩
  case round =>
    clear hb0 HT0
    obtain ⟨k, hk, rfl, ⟨v, HT⟩, hb⟩ := hrel
    by_cases hlt : k < ln
    · obtain ⟨ad, rfl, hadb, hok, hcs⟩ := items_cells (HI.out.below hb) hlt
      have hxn : (x k).n ≤ 10000 := by
        have h1 := sumN_mono x (k + 1) ln hlt
        have h2 := HS3.out
        rw [sumN] at h1
        omega
      have HP := Lib.hid (putIt_any (x k) wr w.heap.size (w.heap.size + 1) v (totL x k) (totD x k) HT.out (by have := HTL.out k hk; omega) HT.out.lt w.heap.size hb.size hok hxn)
      have HCS := Lib.hid hcs
      clear hok hcs hxn
      go_wp2_with (refine wpList_load_cells rfl 30 _ rfl (ad.add (k * 3)) rfl #[.int .u8 ((x k).kind : Int), .int .u64 ((x k).num : Int), .slice (x k).A (x k).n (x k).cap] _ HCS.out Try.underlying30 rfl infoI ?_)
      refine HP.out.mono ?_
      rintro e w6 ⟨rfl, hp⟩
      obtain ⟨v', hW6, hB6, _⟩ := hp.step HT.out hb (Nat.le_refl _) (Nat.le_succ _) hb.size
      have HW6 : Hid (Wr w6 w.heap.size (w.heap.size + 1) v' (totL x (k + 1)) (totD x (k + 1))) := Lib.hid hW6
      clear HP hp hW6 HCS HT
      go_wp2_with fail
      go_roundw
      case rel => exact ⟨k + 1, by omega, by go_num, ⟨v', HW6⟩, hB6⟩
      case measure => simp [intOf]; omega
    · have HKL := Lib.hid (show k = ln by omega)
      have hT := HT.out
      rw [HKL.out] at hT
      have HP := Lib.hid (wRaw_any Bh m c bd wr w.heap.size (w.heap.size + 1) v (totL x ln) (totD x ln) hT (by have := HTL.out ln (Nat.le_refl _); omega) (by omega) hT.lt w.heap.size (HR.out.below hb) HA.out HMC.out)
      have HT1 := Lib.hid hT
      clear hT HT
      go_wp2_with fail
      refine HP.out.mono ?_
      rintro e w2 ⟨rfl, hp⟩
      obtain ⟨v2, hW2, hB2, _⟩ := hp.step HT1.out hb (Nat.le_refl _) (Nat.le_succ _) hb.size
      have HO := Lib.hid (out_any _ _ _ _ _ _ hW2 (by have := HTL.out ln (Nat.le_refl _); omega))
      clear HP hp hb hW2 HT1
      go_wp2_with fail
      refine HO.out.mono ?_
      rintro e w3 ⟨⟨vo, rfl, hown⟩, hb3⟩
      have hB3 := below_step hB2 hb3 hB2.size
      obtain ⟨Ao, capo, rfl, hLo, hco, hHo, hAo⟩ := own_slice hown
      have HOP := Lib.hid (open_any Ao (totL x ln + m) capo (joinD (totL x ln) (totD x ln) bd) w3 (by have := HTL.out ln (Nat.le_refl _); omega) _ hHo hAo hLo)
      clear HO hb3 hown hHo hAo hLo hco hB2
      go_wp2_with fail
      refine HOP.out.mono ?_
      rintro e w4 ⟨gr, rfl, hgr, hR4, hb4⟩
      have hB4 := below_step hB3 hb4 hB3.size
      have HGR := Lib.hid (show w.heap.size ≤ gr by have := hB3.size; omega)
      have HR4 := Lib.hid hR4
      clear HOP hb4 hR4 hgr hB3
      go_wp2_with fail
      obtain ⟨D, DD⟩ : ∃ D, Hid (D = joinD (totL x ln) (totD x ln) bd) := ⟨_, Lib.hid rfl⟩
      obtain ⟨N, NN⟩ : ∃ N, Hid (N = totL x ln + m) := ⟨_, Lib.hid rfl⟩
      rw [← DD.out, ← NN.out] at HR4
      have HDL : Hid (∀ i, D i < 256) := Lib.hid (by rw [DD.out]; exact join_lt _ _ _ (totD_lt x ln HXD.out ln (Nat.le_refl _)) HBD.out)
      have HD0 : Hid (Rd w4 gr (N - totL x 0) (shiftD (totL x 0) D) false) := Lib.hid (by
        rw [show shiftD (totL x 0) D = D from funext fun i => by simp [shiftD, totL]]; exact HR4.out)
      clear HR4
      go_loopw [8] (fun i wr => ∃ k : Nat, k ≤ ln ∧ i = .int .i64 k ∧ Hid (Rd wr gr (N - totL x k) (shiftD (totL x k) D) false) ∧ Below w.heap.size w wr) (fun i _ => ln - (intOf i).toNat)
      case atStart => exact ⟨0, by omega, rfl, HD0, hB4⟩
      case round =>
        clear HD0 hB4
        rename_i k0 _
        obtain ⟨k, hk, rfl, HRD, hb⟩ := hrel
        by_cases hlt : k < ln
        · obtain ⟨ad, rfl, hadb, hok, hcs⟩ := items_cells (HI.out.below hb) hlt
          obtain ⟨kd, KD⟩ : ∃ q, Hid (q = (x k).kind) := ⟨_, Lib.hid rfl⟩
          obtain ⟨nu, NU⟩ : ∃ q, Hid (q = (x k).num) := ⟨_, Lib.hid rfl⟩
          obtain ⟨xa, XA⟩ : ∃ q, Hid (q = (x k).A) := ⟨_, Lib.hid rfl⟩
          obtain ⟨xn, XN⟩ : ∃ q, Hid (q = (x k).n) := ⟨_, Lib.hid rfl⟩
          obtain ⟨xc, XC⟩ : ∃ q, Hid (q = (x k).cap) := ⟨_, Lib.hid rfl⟩
          rw [← KD.out, ← NU.out, ← XA.out, ← XN.out, ← XC.out] at hcs
          have HCS := Lib.hid hcs
          have HOK := Lib.hid hok
          have hxn : xn ≤ 3000 := by
            have h1 := sumN_mono x (k + 1) ln hlt
            have h2 := HS3.out
            have h3 := XN.out
            rw [sumN] at h1
            omega
          clear hcs hok
          go_upto_region 14 with (first | (refine wpList_load_cells rfl 30 _ rfl (ad.add (k * 3)) rfl #[.int .u8 (kd : Int), .int .u64 (nu : Int), .slice xa xn xc] _ HCS.out Try.underlying30 rfl infoI ?_) | (refine wpList_store_row rfl 30 _ _ rfl wr.heap.size #[.int .u8 (kd : Int), .int .u64 (nu : Int), .slice xa xn xc] rfl rfl 30 _ (heap_alloc_new _ _) infoI rfl rfl ?_))
          have hb3 := hb.alloc hb.size (.cells #[.int .u8 (kd : Int), .int .u64 (nu : Int), .slice xa xn xc] 30)
          have hR3 := HRD.out.below (below_alloc1 wr (.cells #[.int .u8 (kd : Int), .int .u64 (nu : Int), .slice xa xn xc] 30))
          have hgx := heap_alloc_new wr (.cells #[.int .u8 (kd : Int), .int .u64 (nu : Int), .slice xa xn xc] 30)
          have hok3 := HOK.out.below ((Below.refl w.heap.size wr).alloc hb.size (.cells #[.int .u8 (kd : Int), .int .u64 (nu : Int), .slice xa xn xc] 30))
          have hgrx : gr < wr.heap.size := HRD.out.lt
          generalize (wr.alloc (.cells #[.int .u8 (kd : Int), .int .u64 (nu : Int), .slice xa xn xc] 30)) = w5 at *
          obtain ⟨gx, GX⟩ : ∃ q, Hid (q = wr.heap.size) := ⟨_, Lib.hid rfl⟩
          have hwx : w.heap.size ≤ gx := by rw [GX.out]; exact hb.size
          rw [← GX.out] at hgx hgrx ⊢
          -- what is read is what was put
          have hlen : totL x k + itLen (x k) = totL x (k + 1) := rfl
          have hle := totL_mono x (k + 1) ln hlt
          have hfit : itLen (x k) ≤ N - totL x k := by have := NN.out; omega
          have hbig : N - totL x k ≤ 20000 := by have := NN.out; have := HTL.out ln (Nat.le_refl _); omega
          have hat : ∀ i, i < itLen (x k) → shiftD (totL x k) D i = itB (x k) i := fun i hi => by
            rw [shiftD, DD.out, join_low _ _ _ _ (by omega)]
            exact totD_at x ln k i hlt hi
          have hnext : Hid (∀ w' , Rd w' gr (N - totL x k - itLen (x k)) (shiftD (itLen (x k)) (shiftD (totL x k) D)) false → Rd w' gr (N - totL x (k + 1)) (shiftD (totL x (k + 1)) D) false) := Lib.hid fun w' h => by
            rw [shift_shift, hlen, show N - totL x k - itLen (x k) = N - totL x (k + 1) by omega] at h
            exact h
          have HAT := Lib.hid hat
          have hc0 := cell_of_row w5 gx 0 _ _ _ hgx
          have hc1 := cell_of_row w5 gx 1 _ _ _ hgx
          have hc2 := cell_of_row w5 gx 2 _ _ _ hgx
          have hf1 := frozen_of_row w5 gx 1 _ _ hgx
          simp at hc0 hc1 hc2
          by_cases h4 : kd % 5 = 4
          · have e5 : (kd : Int) % 5 = 4 := by omega
            have hil : itLen (x k) = xn := by rw [itLen, ← KD.out, if_pos h4, XN.out]
            have hib : itB (x k) = (x k).d := by rw [itB, ← KD.out, if_pos h4]
            have HK4 := Lib.hid h4
            have ew : IntKind.u64.wrap (xn : Int) = (xn : Int) := by rw [IntKind.wrap_u64]; omega
            have ew2 : (xn : Int) % 18446744073709551616 = (xn : Int) := by omega
            obtain ⟨w6, hw6, hg6, hk6⟩ : ∃ w6, w6 = w5.setCell ⟨gx, 1, none⟩ (.int .u64 (xn : Int)) ∧ w6.heap[gx]? = some (.cells #[.int .u8 (kd : Int), .int .u64 (xn : Int), .slice xa xn xc] 30 (0, 0)) ∧ KeptBut w5 w6 gx none :=
              ⟨_, rfl, (Go.Joins.block_setCell hgx _).trans (by simp), (KeptBut.refl w5 gx none).setCell (p := ⟨gx, 1, none⟩) rfl _⟩
            have hR6 : Rd w6 gr (N - totL x k) (shiftD (totL x k) D) false := by
              obtain ⟨A, cap, h0, h1, h2⟩ := hR3
              refine ⟨A, cap, (hk6.block gr (block_lt h0) (by omega) (fun e => by cases e)).trans h0, fun hn0 => ?_, h2⟩
              obtain ⟨a, ea, hl, hc⟩ := h1 hn0
              refine ⟨a, ea, hl, fun q hq => ?_⟩
              rw [← hc q hq]
              exact World.cell?_of_block (hk6.block _ (by rw [add_block]; have := block_lt h0; omega) (by rw [add_block]; omega) (fun e => by cases e))
            have hB6 := kept_rd_below hb3 hk6 hwx hb3.size
            obtain ⟨y, hy⟩ : ∃ y : It, y = ⟨kd, xn, xa, xn, xc, (x k).d⟩ := ⟨_, rfl⟩
            have hask : ask y = (xn : Int) := by rw [hy, ask, if_pos h4]; simp [sgn]; omega
            have HG := Lib.hid (reads_yes y xn 0 (strOf (txt (x k).d xn)) hask (by rw [hy]; show xn < 18446744073709551616; omega) w6 gr _ _ (fun i => HDL.out _) hR6 (by omega) hbig (by rw [hy, readN]; exact if_pos h4) (by
              rw [hy, readS]
              refine (if_pos h4).trans ?_
              exact congrArg strOf (txt_congr _ (x k).d xn (fun i hi => (hat i (by omega)).trans (congrFun hib i)))))
            rw [hy] at HG
            have HG6 := Lib.hid hg6
            have HIL := Lib.hid hil
            clear hask hy hgx hR3 hb3 hok3 hR6 h4 hat hib hfit hil
            go_upto_region 16 with (fail)
            rw [← hw6]
            clear hw6 hk6 hc0 hc1 hc2 hf1 hg6
            go_wp2_with (refine wpList_load_row rfl 30 _ rfl gx rfl 30 #[.int .u8 (kd : Int), .int .u64 (xn : Int), .slice xa xn xc] (0, 0) _ HG6.out Try.underlying30 rfl infoI ?_)
            refine HG.out.mono ?_
            rintro e w7 ⟨rfl, hR7, hk7⟩
            have hB7 := kept_rd_below hB6 hk7 HGR.out hB6.size
            have hg7 := (hk7.block gx (block_lt HG6.out) (by omega) (fun e => by cases e)).trans HG6.out
            have hc0 := cell_of_row w7 gx 0 _ _ _ hg7
            have hc2 := cell_of_row w7 gx 2 _ _ _ hg7
            simp at hc0 hc2
            obtain ⟨ad7, ead7, _, ⟨ok1, ok2, ok3, ok4, ok5, ok6, ok7⟩, _⟩ := items_cells (HI.out.below hB7) hlt
            cases ead7
            rw [← XN.out, ← XA.out] at ok6
            rw [← XN.out, ← XC.out] at ok4
            rw [← XA.out, ← XC.out] at ok7
            have hcv := convert_holds (P := Try.prog) (src := 25) (dst := 9) ok3 ok6 ok7 ok4 Try.underlying25 Try.underlying5 Try.underlying9
            have HN7 := Lib.hid (hnext.out w7 (by rw [HIL.out]; exact hR7))
            clear ok1 ok2 ok3 ok4 ok5 ok6 ok7 hR7 hk7 hB6 HG HG6 hg7 HOK HCS HRD hb hnext HAT
            go_wp2_with fail
            go_roundw
            case rel => exact ⟨k + 1, by omega, by go_num, HN7, hB7⟩
            case measure => simp [intOf]; omega
          · have e5 : ((kd : Int) % 5 == 4) = false := by rw [beq_eq_false_iff_ne]; omega
            have hil : itLen (x k) = wd (kd % 5) := by rw [itLen, ← KD.out, if_neg h4]
            have hask : ask (x k) = ((itLen (x k) : Nat) : Int) := by rw [ask, ← KD.out, if_neg h4, hil]
            obtain ⟨T, TT⟩ : ∃ T, Hid (T = itLen (x k)) := ⟨_, Lib.hid rfl⟩
            obtain ⟨V, VV⟩ : ∃ V, Hid (V = numV (itB (x k)) (itLen (x k))) := ⟨_, Lib.hid rfl⟩
            have HG := Lib.hid (reads_yes (x k) (itLen (x k)) V ⟨#[]⟩ hask HOK.out.2.1 w5 gr _ _ (fun i => HDL.out _) hR3 hfit hbig (by rw [readN, ← KD.out, if_neg h4, VV.out]; exact numV_congr _ _ _ hat) (by rw [readS, ← KD.out, if_neg h4]))
            rw [← KD.out, ← NU.out, ← XA.out, ← XN.out, ← XC.out, ← TT.out] at HG
            have HG5 := Lib.hid hgx
            have HT8 := Lib.hid (show T ≤ 8 by rw [TT.out, hil]; exact (wd_le _).2)
            clear hask hR3 hok3 hat hfit hgx h4 hil
            go_wp2_with (refine wpList_load_row rfl 30 _ rfl gx rfl 30 #[.int .u8 (kd : Int), .int .u64 (nu : Int), .slice xa xn xc] (0, 0) _ HG5.out Try.underlying30 rfl infoI ?_)
            refine HG.out.mono ?_
            rintro e w7 ⟨rfl, hR7, hk7⟩
            have hB7 := kept_rd_below hb3 hk7 HGR.out hb3.size
            have hg7 := (hk7.block gx (block_lt HG5.out) (by omega) (fun e => by cases e)).trans HG5.out
            have hc0 := cell_of_row w7 gx 0 _ _ _ hg7
            simp at hc0
            obtain ⟨ad7, ead7, _, hok7, _⟩ := items_cells (HI.out.below hB7) hlt
            cases ead7
            have HBY := Lib.hid (bytesIt_any (x k) w7 w.heap.size hB7.size hok7)
            rw [← KD.out, ← NU.out, ← XA.out, ← XN.out, ← XC.out] at HBY
            have HN7 := Lib.hid (hnext.out w7 (by rw [← TT.out]; exact hR7))
            have HIB := Lib.hid (fun i => itB_lt (x k) (HXD.out k hlt) i)
            have HG7 := Lib.hid hg7
            clear hR7 hk7 HG HG5 HOK HCS HRD hb hnext HAT hok7 hg7 hb3 hc1 hc2 hf1
            go_wp2_with (refine wpList_load_row rfl 30 _ rfl gx rfl 30 #[.int .u8 (kd : Int), .int .u64 (nu : Int), .slice xa xn xc] (0, 0) _ HG7.out Try.underlying30 rfl infoI ?_)
            refine HBY.out.mono ?_
            rintro e w8 ⟨Ab, cb, rfl, hh8, hl8, hm8, hA8, hb8⟩
            have hB8 := below_step hB7 hb8 hB7.size
            have HN8 := Lib.hid (HN7.out.below hb8)
            have HNU := Lib.hid (refNumber_any Ab (itLen (x k)) cb (itB (x k)) HIB.out (by rw [← TT.out]; exact HT8.out) w8 _ hh8)
            rw [← VV.out] at HNU
            clear hh8 hl8 hm8 hA8 hb8 HBY HN7 HG7 hc0 hB7
            go_wp2_with fail
            refine HNU.out.mono ?_
            rintro e w9 ⟨rfl, rfl⟩
            go_wp2_with fail
            go_roundw
            case rel => exact ⟨k + 1, by omega, by go_num, HN8, hB8⟩
            case measure => simp [intOf]; omega
        · have hkk : k = ln := by omega
          have hR := HRD.out
          rw [hkk, show N - totL x ln = m by have := NN.out; omega] at hR
          have hbeh : ∀ i, i < m → shiftD (totL x ln) D i = bd i := fun i _ => by rw [shiftD, DD.out, join_at]
          have hRd : Rd wr.drew gr m (shiftD (totL x ln) D) false := hR.below (Below.refl _ _).drew
          have HLF := Lib.hid (left_any _ _ _ _ _ hRd)
          have HRW := Lib.hid (rRaw_yes m wr.drew gr m _ hRd (Nat.le_refl _) (by omega))
          have hcB := convert_holds (P := Try.prog) (src := 25) (dst := 9) HBD.out (HR.out.below hb.drew) HA.out HMC.out Try.underlying25 Try.underlying5 Try.underlying9
          obtain ⟨st, ST⟩ : ∃ s, Hid (s = strOf (txt bd m)) := ⟨_, Lib.hid rfl⟩
          rw [← ST.out] at hcB
          have HTX := Lib.hid (txt_congr _ bd m hbeh)
          have HSD : Hid (∀ i, shiftD (totL x ln) D i < 256) := Lib.hid fun i => HDL.out _
          clear hR hRd hbeh hkk HRD
          go_wp2_with fail
          go_region_with (first | (go_at_call 19; refine HLF.out.mono ?_; rintro e w' ⟨rfl, rfl⟩) | (go_at_call 21; refine HRW.out.mono ?_; rintro e w10 ⟨vr, rfl, hown10, hR10, hk10⟩; have hB10 := kept_rd_below hb.drew hk10 HGR.out hb.size; have hc1 := convert_own (P := Try.prog) (src := 25) (dst := 9) (l := txt (shiftD (totL x ln) D) m) (by rw [txt_len, ← txt_cells _ _ HSD.out]; exact hown10) Try.underlying25 Try.underlying5 Try.underlying9; rw [HTX.out, ← ST.out] at hc1; have hc2 := convert_holds (P := Try.prog) (src := 25) (dst := 9) HBD.out (HR.out.below hB10) HA.out HMC.out Try.underlying25 Try.underlying5 Try.underlying9; rw [← ST.out] at hc2; have HBAD := Lib.hid (bad_any _ _ _ _ _ hR10); clear hown10 hR10 hk10) | (go_at_call 18; refine HBAD.out.mono ?_; rintro e w' ⟨rfl, rfl⟩) | (go_at_call 9; refine (works_any _).mono ?_; rintro e w11 ⟨rfl, hb11⟩))
          all_goals
            have hB11 := below_step hB10 hb11 hB10.size
            clear hB10 hb11 hcB
            go_wp2_with fail
            go_ret
            exact ⟨rfl, hB11⟩
theorem fieldsBack_walk (x : Nat → It) (LA : Option Addr) (ln lcap : Nat) (bd : Nat → Nat) (Bh : Option Addr) (m c : Nat) (w : World) (hl : ln ≤ lcap) (hlc : lcap ≤ maxLen) (hI : Items w w.heap.size LA ln x) (hbd : ∀ i, bd i < 256) (hmc : m ≤ c) (hcm : c ≤ maxLen) (hr : Holds w w.heap.size Bh m bd) (hA : Bh = none → c = 0) :
    Calls Try.prog 5 #[.slice LA ln lcap, .slice Bh m c] w fun e w' => e = .returned (.bool true) ∧ Below w.heap.size w w' := by
  cases hL : largeB x ln with
  | true => exact fieldsBack_a x LA ln lcap Bh m c w hlc hl hI hL
  | false =>
    by_cases hm : 3000 < m
    · exact fieldsBack_b x LA ln lcap Bh m c w hlc hl hI hL hm
    · exact fieldsBack_c x LA ln lcap bd Bh m c w hlc hl hI hL hbd hmc hcm hr hA (by omega)
end Go.Proofs.Ytohojfgceaajfaa
