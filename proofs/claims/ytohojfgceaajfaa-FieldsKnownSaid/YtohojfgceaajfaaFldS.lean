/- The walk of the law FieldsReads. -/
import Derived.Test.YtohojfgceaajfaaFldR
import Derived.Deep.QuietTactic
namespace Go.Proofs.Ytohojfgceaajfaa
open Go.RowKit

theorem fieldsReads_a (Bh : Option Addr) (m c : Nat) (LA : Option Addr) (ln lcap : Nat) (w : World) (hm : 3000 < m) :
    Calls Try.prog 4 #[.slice Bh m c, .slice LA ln lcap] w fun e w' => e = .returned (.bool true) ∧ Below w.heap.size w w' := by
  go_enter Try.func4, Try.ntmps4
  go_wp2_with fail
  refine (works_any _).mono ?_
  rintro e w4 ⟨rfl, hb4⟩
  go_wp2_with fail
  go_ret
  exact ⟨rfl, hb4⟩
theorem fieldsReads_b (Bh : Option Addr) (m c : Nat) (LA : Option Addr) (ln lcap : Nat) (w : World) (hm : m ≤ 3000) (hl : 100 < ln) :
    Calls Try.prog 4 #[.slice Bh m c, .slice LA ln lcap] w fun e w' => e = .returned (.bool true) ∧ Below w.heap.size w w' := by
  go_enter Try.func4, Try.ntmps4
  go_wp2_with fail
  refine (works_any _).mono ?_
  rintro e w4 ⟨rfl, hb4⟩
  go_wp2_with fail
  go_ret
  exact ⟨rfl, hb4⟩

/-- Both readers, and the bytes that were handed in. -/
structure Both (w : World) (B gi gr gm n : Nat) (io : Obj) (d : Nat → Nat) (bad : Bool) : Prop where
  rd : Rd w gr n d bad
  rm : Rm w gm B n d bad
  inn : w.heap[gi]? = some io
theorem Both.below {w w' : World} {B gi gr gm n : Nat} {io : Obj} {d : Nat → Nat} {bad : Bool} (h : Both w B gi gr gm n io d bad) (hB : B ≤ gm) (hb : Below w.heap.size w w') : Both w' B gi gr gm n io d bad :=
  ⟨h.rd.below hb, h.rm.below hB hb, (hb.block gi (block_lt h.inn)).trans h.inn⟩

def ReadYesS (w : World) (g n k : Nat) (d : Nat → Nat) (N : Nat) (S : ByteArray) (e : Ending) (w' : World) : Prop :=
  e = .returned (.tuple #[.int .u64 (N : Int), .string S]) ∧ Rd w' g (n - k) (shiftD k d) false ∧ KeptBut w w' g none
theorem reads_yesS (x : It) (k N : Nat) (S : ByteArray) (hask : ask x = (k : Int)) (hnu : x.num < 18446744073709551616) (w : World) (g n : Nat) (d : Nat → Nat) (hd : ∀ i, d i < 256) (hR : Rd w g n d false) (hkn : k ≤ n) (hn : n ≤ 20000) (hN : readN x d k = N) (hS : readS x d k = S) :
    Calls Try.prog 16 #[.pointer (some ⟨g, 0, none⟩), .agg #[.int .u8 (x.kind : Int), .int .u64 (x.num : Int), .slice x.A x.n x.cap]] w fun e w' => ReadYesS w g n k d N S e w' :=
  (reads_any x hnu w g n d false hd hR (fun h => by cases h) hn).mono fun e w' h => by
    obtain ⟨h1, h2⟩ := h
    rw [hask, if_pos ⟨rfl, by omega, by omega⟩, Int.toNat_natCast, hN, hS] at h2
    exact ⟨h2.1, h2.2, h1⟩
def ReadNo (w : World) (g : Nat) (e : Ending) (w' : World) : Prop :=
  e = .returned (.tuple #[.int .u64 0, .string ⟨#[]⟩]) ∧ Rd w' g 0 (fun _ => 0) true ∧ KeptBut w w' g none
theorem reads_no (x : It) (hnu : x.num < 18446744073709551616) (w : World) (g n : Nat) (d : Nat → Nat) (bad : Bool) (hd : ∀ i, d i < 256) (hR : Rd w g n d bad) (hb : bad = true → n = 0) (hn : n ≤ 20000) (hno : ¬ (bad = false ∧ 0 ≤ ask x ∧ ask x ≤ n)) :
    Calls Try.prog 16 #[.pointer (some ⟨g, 0, none⟩), .agg #[.int .u8 (x.kind : Int), .int .u64 (x.num : Int), .slice x.A x.n x.cap]] w fun e w' => ReadNo w g e w' :=
  (reads_any x hnu w g n d bad hd hR hb hn).mono fun e w' h => by
    obtain ⟨h1, h2⟩ := h
    rw [if_neg hno] at h2
    exact ⟨h2.1, h2.2, h1⟩
theorem ask_wrap (n : Nat) (hn : n < 18446744073709551616) : wrap64 (n : Int) = sgn n ∧ IntKind.i64.wrap (n : Int) = sgn n := by
  constructor
  · unfold wrap64 sgn; split <;> omega
  · rw [IntKind.wrap_i64, sgn]; split <;> omega

theorem bad_q (w : World) (g n : Nat) (d : Nat → Nat) (bad : Bool) (hR : Rd w g n d bad) :
    Calls Try.prog 18 #[.pointer (some ⟨g, 0, none⟩)] w fun e w' => e = .returned (.bool bad) ∧ w' = w := (bad_any w g n d bad hR).mono fun _ _ h => ⟨h.1, h.2.symm⟩
theorem left_q (w : World) (g n : Nat) (d : Nat → Nat) (bad : Bool) {n6 : Nat} (h6 : Hid (((n6 : Nat) : Int) = (n : Int))) (hR : Rd w g n d bad) :
    Calls Try.prog 19 #[.pointer (some ⟨g, 0, none⟩)] w fun e w' => e = .returned (.int .i64 (n6 : Int)) ∧ w' = w := (left_any w g n d bad hR).mono fun _ _ h => ⟨by rw [h6.out]; exact h.1, h.2.symm⟩
theorem left_z (w : World) (g : Nat) (d : Nat → Nat) (bad : Bool) (hR : Rd w g 0 d bad) :
    Calls Try.prog 19 #[.pointer (some ⟨g, 0, none⟩)] w fun e w' => e = .returned (.int .i64 0) ∧ w' = w := (left_any w g 0 d bad hR).mono fun _ _ h => ⟨h.1, h.2.symm⟩
/-- What the last test of a round reads. -/
structure Ends (w : World) (gr gm n : Nat) (bad : Bool) : Prop where
  rd : ∃ d, Rd w gr n d bad
  c1 : w.cell? ⟨gm, 1, none⟩ = some (.bool bad)
  c0 : ∃ A cap, w.cell? ⟨gm, 0, none⟩ = some (.slice A n cap)
theorem Both.ends {w : World} {B gi gr gm n : Nat} {io : Obj} {d : Nat → Nat} {bad : Bool} (h : Both w B gi gr gm n io d bad) : Ends w gr gm n bad := by
  obtain ⟨A, cap, hg, _⟩ := h.rm
  exact ⟨⟨d, h.rd⟩, (cell_of_row w gm 1 _ _ _ hg).trans rfl, A, cap, (cell_of_row w gm 0 _ _ _ hg).trans rfl⟩

set_option maxRecDepth 100000 in
set_option maxHeartbeats 2000000 in
theorem fieldsReads_c (bd : Nat → Nat) (Bh : Option Addr) (m c : Nat) (x : Nat → It) (LA : Option Addr) (ln lcap : Nat) (w : World) (hbd : ∀ i, bd i < 256) (hmc : m ≤ c) (hcm : c ≤ maxLen) (hr : Holds w w.heap.size Bh m bd) (hA : Bh = none → c = 0) (hlc : lcap ≤ maxLen) (hl : ln ≤ lcap) (hI : Items w w.heap.size LA ln x) (hm : m ≤ 3000) (h100 : ln ≤ 100) :
    Calls Try.prog 4 #[.slice Bh m c, .slice LA ln lcap] w fun e w' => e = .returned (.bool true) ∧ Below w.heap.size w w' := by
  have HBD := Lib.hid hbd
  have HR := Lib.hid hr
  have HA := Lib.hid hA
  have HMC := Lib.hid hmc
  have HCM := Lib.hid hcm
  have HI := Lib.hid hI
  have hd1 : decide (3000 < (m : Int)) = false := decide_eq_false (by omega)
  have hd2 : decide (100 < (ln : Int)) = false := decide_eq_false (by omega)
  have hcv := convert_holds (P := Try.prog) (src := 25) (dst := 9) hbd hr hA hmc Try.underlying25 Try.underlying5 Try.underlying9
  obtain ⟨cap2, cur, w2, c0, hn2, hc2, hc0, hcb, hb2, hg2, hcur⟩ := bytes_block (P := Try.prog) w 5 9 25 bd m hbd (by unfold maxLen; omega) Try.underlying9 Try.underlying25 Try.underlying5
  obtain ⟨st, ST⟩ : ∃ s, Hid (s = strOf (txt bd m)) := ⟨_, Lib.hid rfl⟩
  rw [← ST.out] at hcv hcb
  obtain ⟨gi, G⟩ : ∃ g, Hid (g = w.heap.size) := ⟨_, Lib.hid rfl⟩
  rw [← G.out] at hcb hg2
  have HC2 := Lib.hid hc2
  have HN2 := Lib.hid hn2
  have HCUR := Lib.hid hcur
  have hH2 : Holds w2 w2.heap.size (some ⟨gi, 0, none⟩) m bd := fun _ => ⟨_, rfl, block_lt hg2, fun j hj => by
    have hadd : (⟨gi, 0, none⟩ : Addr).add j = ⟨gi, j, none⟩ := by unfold Addr.add; split <;> simp_all
    rw [hadd, cell_of_row _ _ _ _ _ _ hg2]
    exact hcur j hj⟩
  have HOP := Lib.hid (open_any (some ⟨gi, 0, none⟩) m cap2 bd w2 (by omega) _ hH2 (fun h => by cases h) hn2)
  clear hbd hr hA hmc hcm hI hlc hl hcur hc2 hn2 hc0 hH2
  go_enter Try.func4, Try.ntmps4
  go_wp2_with fail
  clear hcv hcb
  refine HOP.out.mono ?_
  rintro e w3 ⟨gr, rfl, hgr, hR3, hb3⟩
  have hB3 := below_step hb2 hb3 hb2.size
  have hg3 := (hb3.block gi (block_lt hg2)).trans hg2
  have HGR := Lib.hid (show gi < gr by have := block_lt hg2; omega)
  go_upto_region 6 with (fail)
  obtain ⟨B, BB⟩ : ∃ B, Hid (B = w.heap.size) := ⟨_, Lib.hid rfl⟩
  obtain ⟨io, IO⟩ : ∃ io, Hid (io = Obj.cells cur 5 (c0, c0 + 1)) := ⟨_, Lib.hid rfl⟩
  have hgm := heap_alloc_new w3 (.cells #[.slice Bh m c, .bool false] 39)
  have hba := below_alloc1 w3 (.cells #[.slice Bh m c, .bool false] 39)
  have hB4 := below_step hB3 hba hB3.size
  obtain ⟨gm, GM⟩ : ∃ g, Hid (g = w3.heap.size) := ⟨_, Lib.hid rfl⟩
  have HGM := Lib.hid (show gr < gm by rw [GM.out]; exact hR3.lt)
  have HBG := Lib.hid (show B ≤ gi by rw [BB.out, G.out]; exact Nat.le_refl _)
  have hBOTH : Both (w3.alloc (.cells #[.slice Bh m c, .bool false] 39)) B gi gr gm m io bd false :=
    ⟨hR3.below hba, ⟨Bh, c, by rw [GM.out]; exact hgm, by rw [BB.out]; exact HR.out.below hB4, HMC.out, HCM.out, HA.out⟩, by rw [IO.out]; exact (hba.block gi (block_lt hg3)).trans hg3⟩
  rw [← GM.out]
  have HBOTH := Lib.hid hBOTH
  generalize (w3.alloc (.cells #[.slice Bh m c, .bool false] 39)) = w4 at *
  clear hgm hba hBOTH hg3 hR3 hb3 hB3 hb2 hg2 hgr HOP GM
  go_wp2_with fail
  go_loopw [8] (fun i wr => ∃ (k n : Nat) (D : Nat → Nat) (bad : Bool), k ≤ ln ∧ i = .int .i64 k ∧ n ≤ 3000 ∧ Hid (Both wr B gi gr gm n io D bad) ∧ Hid (bad = true → n = 0) ∧ Hid (∀ i, D i < 256) ∧ Below w.heap.size w wr) (fun i _ => ln - (intOf i).toNat)
  case atStart => exact ⟨0, m, bd, false, by omega, rfl, hm, HBOTH, Lib.hid (fun h => by cases h), HBD, hB4⟩
  case round =>
    clear HBOTH hB4
    obtain ⟨k, n, D, bad, hk, rfl, hn, HB, HZ, HD, hb⟩ := hrel
    by_cases hlt : k < ln
    · obtain ⟨ad, rfl, hadb, hok, hcs⟩ := items_cells (HI.out.below hb) hlt
      have hc0 : wr.cell? (ad.add (k * 3)) = some (.int .u8 ((x k).kind : Int)) := by have := hcs 0 _ rfl; rwa [add_zero] at this
      have hc1 : wr.cell? ⟨(ad.add (k * 3)).block, (ad.add (k * 3)).off + 1, none⟩ = some (.int .u64 ((x k).num : Int)) := hcs 1 _ rfl
      obtain ⟨kd, KD⟩ : ∃ q, Hid (q = (x k).kind) := ⟨_, Lib.hid rfl⟩
      obtain ⟨nu, NU⟩ : ∃ q, Hid (q = (x k).num) := ⟨_, Lib.hid rfl⟩
      rw [← KD.out] at hc0
      rw [← NU.out] at hc1
      obtain ⟨z, Z⟩ : ∃ z, Hid (z = sgn nu) := ⟨_, Lib.hid rfl⟩
      obtain ⟨ez1, ez2⟩ := ask_wrap nu (by rw [NU.out]; exact hok.2.1)
      rw [← Z.out] at ez1 ez2
      have HOK := Lib.hid hok
      clear hok hcs
      have HBM := Lib.hid (show B ≤ gm by have := HGM.out; have := HGR.out; have := HBG.out; omega)
      have HBR := Lib.hid (show B ≤ gr by have := HGR.out; have := HBG.out; omega)
      by_cases h4 : kd % 5 = 4
      · have e5 : (kd : Int) % 5 = 4 := by omega
        have HASK : Hid (ask (x k) = z) := Lib.hid (by rw [ask, ← KD.out, if_pos h4, Z.out, NU.out])
        have HBO := HB
        have hbv := hb
        have HK4 := Lib.hid h4
        clear h4 HB hb HOK
        by_cases hok : bad = false ∧ 0 ≤ z ∧ z ≤ n
        · obtain ⟨rfl, hz0, hzn⟩ := hok
          obtain ⟨q, rfl⟩ : ∃ q : Nat, z = (q : Int) := ⟨z.toNat, by omega⟩
          have hqn : q ≤ n := by omega
          have HTK := Lib.hid (took_ok q wr gm B n D HBM.out HBO.out.rm hqn)
          clear hz0 hzn
          go_wp2_with fail
          refine HTK.out.mono ?_
          rintro e w5 ⟨At, ct, rfl, hht, hqc, hctm, hAt, hrm5, hk5⟩
          have hrd5 := HBO.out.rd.kept hk5 HGM.out
          have hin5 := (hk5.block gi (block_lt HBO.out.inn) (by have := HGM.out; have := HGR.out; omega) (fun e => by cases e)).trans HBO.out.inn
          have hB5 := kept_rd_below hbv hk5 (by have := HBM.out; have := BB.out; omega) hbv.size
          obtain ⟨ad5, ead5, _, hok5, hcs5⟩ := items_cells (HI.out.below hB5) hlt
          cases ead5
          have HRD := Lib.hid (reads_yesS (x k) q 0 (strOf (txt D q)) HASK.out hok5.2.1 w5 gr n D HD.out hrd5 hqn (by omega) (by rw [readN, ← KD.out, if_pos HK4.out]) (by rw [readS, ← KD.out, if_pos HK4.out]))
          rw [← KD.out, ← NU.out] at hcs5 HRD
          have HCS5 := Lib.hid hcs5
          clear hok5 hcs5 hrd5 HTK
          go_wp2_with (refine wpList_load_cells rfl 30 _ rfl (ad.add (k * 3)) rfl #[.int .u8 (kd : Int), .int .u64 (nu : Int), .slice (x k).A (x k).n (x k).cap] _ HCS5.out Try.underlying30 rfl infoI ?_)
          refine HRD.out.mono ?_
          rintro e w6 ⟨rfl, hrd6, hk6⟩
          have hrm6 := hrm5.kept HBM.out hk6 (by have := HGM.out; omega) HBR.out
          have hin6 := (hk6.block gi (block_lt hin5) (by have := HGR.out; omega) (fun e => by cases e)).trans hin5
          have hB6 := kept_rd_below hB5 hk6 (by have := HBR.out; have := BB.out; omega) hB5.size
          have HBO6 : Hid (Both w6 B gi gr gm (n - q) io (shiftD q D) false) := Lib.hid ⟨hrd6, hrm6, hin6⟩
          obtain ⟨d9, hrd9⟩ := HBO6.out.ends.rd
          have HRD9 := Lib.hid hrd9
          obtain ⟨ad6, ead6, _, _, hcs6⟩ := items_cells (HI.out.below hB6) hlt
          cases ead6
          have hc06 : w6.cell? (ad.add (k * 3)) = some (.int .u8 (kd : Int)) := by have := hcs6 0 _ rfl; rw [add_zero] at this; rw [KD.out]; exact this
          clear hcs6
          have hcc1 := HBO6.out.ends.c1
          obtain ⟨A9, cap9, hcc0⟩ := HBO6.out.ends.c0
          have hht6 : Holds w6 B At q D := hht.below ⟨hk6.os, hk6.tape, hk6.output, hk6.size, fun j hj => hk6.block j (by have := HBM.out; have := hrm5.lt; omega) (by have := HBR.out; omega) (fun e => by cases e)⟩
          have hcv6 := convert_holds (P := Try.prog) (src := 25) (dst := 9) HD.out hht6 hAt hqc Try.underlying25 Try.underlying5 Try.underlying9
          obtain ⟨s6, S6⟩ : ∃ s, Hid (s = strOf (txt D q)) := ⟨_, Lib.hid rfl⟩
          rw [← S6.out] at hcv6 ⊢
          obtain ⟨n6, N6⟩ : ∃ n6, Hid (n6 = (n - q)) := ⟨_, Lib.hid rfl⟩
          have HN6 : Hid (((n6 : Nat) : Int) = (((n - q) : Nat) : Int)) := Lib.hid (by rw [N6.out])
          rw [← N6.out] at hcc0
          clear hht hht6 hAt hqc hctm
          clear hrd6 hk6 hrm6 hin6 hrm5 hin5 hB5 hk5 HCS5 HRD hrd9 hc0 hc1
          go_wp2_with fail
          go_quiet ((first | (go_at_call 18; exact Calls.quiet_of_same (bad_q _ _ _ _ _ (HRD9.out.below (below_drewN (Below.refl _ _) _)))) | (go_at_call 19; exact Calls.quiet_of_same (left_q _ _ _ _ _ HN6 (HRD9.out.below (below_drewN (Below.refl _ _) _))))))
          have HBO7 := Lib.hid (HBO6.out.below HBM.out (below_drewN (Below.refl _ _) nq))
          have hB7 := below_drewN hB6 nq
          clear hcc0 hcc1 hB6 HBO6
          go_wp2_with fail
          go_roundw
          case rel => exact ⟨k + 1, n - q, shiftD q D, false, by omega, by go_num, by omega, HBO7, Lib.hid (fun h => by cases h), Lib.hid (fun i => HD.out _), hB7⟩
          case measure => simp [intOf]; omega
        · have HTK := Lib.hid (took_no z wr gm B n D bad HBM.out HBO.out.rm hok)
          have HNO := Lib.hid hok
          clear hok
          go_wp2_with fail
          refine HTK.out.mono ?_
          rintro e w5 ⟨rfl, hrm5, hk5⟩
          have hrd5 := HBO.out.rd.kept hk5 HGM.out
          have hin5 := (hk5.block gi (block_lt HBO.out.inn) (by have := HGM.out; have := HGR.out; omega) (fun e => by cases e)).trans HBO.out.inn
          have hB5 := kept_rd_below hbv hk5 (by have := HBM.out; have := BB.out; omega) hbv.size
          obtain ⟨ad5, ead5, _, hok5, hcs5⟩ := items_cells (HI.out.below hB5) hlt
          cases ead5
          have HRD := Lib.hid (reads_no (x k) hok5.2.1 w5 gr n D bad HD.out hrd5 HZ.out (by omega) (by rw [HASK.out]; exact HNO.out))
          rw [← KD.out, ← NU.out] at hcs5 HRD
          have HCS5 := Lib.hid hcs5
          clear hok5 hcs5 hrd5 HTK
          go_wp2_with (refine wpList_load_cells rfl 30 _ rfl (ad.add (k * 3)) rfl #[.int .u8 (kd : Int), .int .u64 (nu : Int), .slice (x k).A (x k).n (x k).cap] _ HCS5.out Try.underlying30 rfl infoI ?_)
          refine HRD.out.mono ?_
          rintro e w6 ⟨rfl, hrd6, hk6⟩
          have hrm6 := hrm5.kept HBM.out hk6 (by have := HGM.out; omega) HBR.out
          have hin6 := (hk6.block gi (block_lt hin5) (by have := HGR.out; omega) (fun e => by cases e)).trans hin5
          have hB6 := kept_rd_below hB5 hk6 (by have := HBR.out; have := BB.out; omega) hB5.size
          have HBO6 : Hid (Both w6 B gi gr gm 0 io (fun _ => 0) true) := Lib.hid ⟨hrd6, hrm6, hin6⟩
          obtain ⟨d9, hrd9⟩ := HBO6.out.ends.rd
          have HRD9 := Lib.hid hrd9
          have hcc1 := HBO6.out.ends.c1
          obtain ⟨A9, cap9, hcc0⟩ := HBO6.out.ends.c0
          clear hrd6 hk6 hrm6 hin6 hrm5 hin5 hB5 hk5 HCS5 HRD hrd9 hc0 hc1
          go_wp2_with fail
          go_quiet ((first | (go_at_call 18; exact Calls.quiet_of_same (bad_q _ _ _ _ _ (HRD9.out.below (below_drewN (Below.refl _ _) _)))) | (go_at_call 19; exact Calls.quiet_of_same (left_z _ _ _ _ (HRD9.out.below (below_drewN (Below.refl _ _) _))))))
          have HBO7 := Lib.hid (HBO6.out.below HBM.out (below_drewN (Below.refl _ _) nq))
          have hB7 := below_drewN hB6 nq
          clear hcc0 hcc1 hB6 HBO6
          go_wp2_with fail
          go_roundw
          case rel => exact ⟨k + 1, 0, fun _ => 0, true, by omega, by go_num, by omega, HBO7, Lib.hid (fun _ => rfl), Lib.hid (fun _ => Nat.zero_lt_succ _), hB7⟩
          case measure => simp [intOf]; omega
      · have e5 : ((kd : Int) % 5 != 4) = true := by rw [bne_iff_ne]; omega
        have e6 : ((kd : Int) % 5 == 4) = false := by rw [beq_eq_false_iff_ne]; omega
        have HWD := Lib.hid (width_any kd (by rw [KD.out]; exact HOK.out.1) h4 wr)
        clear ez1 ez2 Z
        obtain ⟨z, Z⟩ : ∃ z : Int, Hid (z = (wd (kd % 5) : Int)) := ⟨_, Lib.hid rfl⟩
        have HASK : Hid (ask (x k) = z) := Lib.hid (by rw [ask, ← KD.out, if_neg h4, Z.out])
        have HQ8 : Hid (z ≤ 8) := Lib.hid (by rw [Z.out]; have := (wd_le (kd % 5)).2; omega)
        rw [← Z.out] at HWD
        have HK4 := Lib.hid h4
        clear h4 HOK
        go_wp2_with fail
        refine HWD.out.mono ?_
        rintro e wv ⟨rfl, hbw⟩
        have HBO := Lib.hid (HB.out.below HBM.out hbw)
        have hbv := below_step hb hbw hb.size
        have hcx := hbw.cell (p := ad.add (k * 3)) (by rw [add_block]; have := hb.size; omega)
        rw [hc0] at hcx
        clear HB hb hbw hc0 hc1 HWD
        have hc0 := hcx
        have hc1 : True := trivial
        clear hcx
        by_cases hok : bad = false ∧ 0 ≤ z ∧ z ≤ n
        · obtain ⟨rfl, hz0, hzn⟩ := hok
          obtain ⟨q, rfl⟩ : ∃ q : Nat, z = (q : Int) := ⟨z.toNat, by omega⟩
          have hqn : q ≤ n := by omega
          have HTK := Lib.hid (took_ok q wv gm B n D HBM.out HBO.out.rm hqn)
          clear hz0 hzn
          go_wp2_with fail
          refine HTK.out.mono ?_
          rintro e w5 ⟨At, ct, rfl, hht, hqc, hctm, hAt, hrm5, hk5⟩
          have hrd5 := HBO.out.rd.kept hk5 HGM.out
          have hin5 := (hk5.block gi (block_lt HBO.out.inn) (by have := HGM.out; have := HGR.out; omega) (fun e => by cases e)).trans HBO.out.inn
          have hB5 := kept_rd_below hbv hk5 (by have := HBM.out; have := BB.out; omega) hbv.size
          obtain ⟨ad5, ead5, _, hok5, hcs5⟩ := items_cells (HI.out.below hB5) hlt
          cases ead5
          have HRD := Lib.hid (reads_yesS (x k) q (numV D q) ⟨#[]⟩ HASK.out hok5.2.1 w5 gr n D HD.out hrd5 hqn (by omega) (by rw [readN, ← KD.out, if_neg HK4.out]) (by rw [readS, ← KD.out, if_neg HK4.out]))
          rw [← KD.out, ← NU.out] at hcs5 HRD
          have HCS5 := Lib.hid hcs5
          clear hok5 hcs5 hrd5 HTK
          go_wp2_with (refine wpList_load_cells rfl 30 _ rfl (ad.add (k * 3)) rfl #[.int .u8 (kd : Int), .int .u64 (nu : Int), .slice (x k).A (x k).n (x k).cap] _ HCS5.out Try.underlying30 rfl infoI ?_)
          refine HRD.out.mono ?_
          rintro e w6 ⟨rfl, hrd6, hk6⟩
          have hrm6 := hrm5.kept HBM.out hk6 (by have := HGM.out; omega) HBR.out
          have hin6 := (hk6.block gi (block_lt hin5) (by have := HGR.out; omega) (fun e => by cases e)).trans hin5
          have hB6 := kept_rd_below hB5 hk6 (by have := HBR.out; have := BB.out; omega) hB5.size
          have HBO6 : Hid (Both w6 B gi gr gm (n - q) io (shiftD q D) false) := Lib.hid ⟨hrd6, hrm6, hin6⟩
          obtain ⟨d9, hrd9⟩ := HBO6.out.ends.rd
          have HRD9 := Lib.hid hrd9
          obtain ⟨ad6, ead6, _, _, hcs6⟩ := items_cells (HI.out.below hB6) hlt
          cases ead6
          have hc06 : w6.cell? (ad.add (k * 3)) = some (.int .u8 (kd : Int)) := by have := hcs6 0 _ rfl; rw [add_zero] at this; rw [KD.out]; exact this
          clear hcs6
          have hcc1 := HBO6.out.ends.c1
          obtain ⟨A9, cap9, hcc0⟩ := HBO6.out.ends.c0
          have hht6 : Holds w6 B At q D := hht.below ⟨hk6.os, hk6.tape, hk6.output, hk6.size, fun j hj => hk6.block j (by have := HBM.out; have := hrm5.lt; omega) (by have := HBR.out; omega) (fun e => by cases e)⟩
          have HNV := Lib.hid (refNumber_any At q ct D HD.out (by have := HQ8.out; omega) w6 B hht6)
          obtain ⟨V6, V6E⟩ : ∃ s, Hid (s = numV D q) := ⟨_, Lib.hid rfl⟩
          rw [← V6E.out] at HNV ⊢
          obtain ⟨n6, N6⟩ : ∃ n6, Hid (n6 = (n - q)) := ⟨_, Lib.hid rfl⟩
          have HN6 : Hid (((n6 : Nat) : Int) = (((n - q) : Nat) : Int)) := Lib.hid (by rw [N6.out])
          rw [← N6.out] at hcc0
          clear hht hht6 hAt hqc hctm
          clear hrd6 hk6 hrm6 hin6 hrm5 hin5 hB5 hk5 HCS5 HRD hrd9 hc0 hc1
          go_wp2_with fail
          refine HNV.out.mono ?_
          rintro e w' ⟨rfl, rfl⟩
          go_wp2_with fail
          go_quiet ((first | (go_at_call 18; exact Calls.quiet_of_same (bad_q _ _ _ _ _ (HRD9.out.below (below_drewN (Below.refl _ _) _)))) | (go_at_call 19; exact Calls.quiet_of_same (left_q _ _ _ _ _ HN6 (HRD9.out.below (below_drewN (Below.refl _ _) _))))))
          have HBO7 := Lib.hid (HBO6.out.below HBM.out (below_drewN (Below.refl _ _) nq))
          have hB7 := below_drewN hB6 nq
          clear hcc0 hcc1 hB6 HBO6
          go_wp2_with fail
          go_roundw
          case rel => exact ⟨k + 1, n - q, shiftD q D, false, by omega, by go_num, by omega, HBO7, Lib.hid (fun h => by cases h), Lib.hid (fun i => HD.out _), hB7⟩
          case measure => simp [intOf]; omega
        · have HTK := Lib.hid (took_no z wv gm B n D bad HBM.out HBO.out.rm hok)
          have HNO := Lib.hid hok
          clear hok
          go_wp2_with fail
          refine HTK.out.mono ?_
          rintro e w5 ⟨rfl, hrm5, hk5⟩
          have hrd5 := HBO.out.rd.kept hk5 HGM.out
          have hin5 := (hk5.block gi (block_lt HBO.out.inn) (by have := HGM.out; have := HGR.out; omega) (fun e => by cases e)).trans HBO.out.inn
          have hB5 := kept_rd_below hbv hk5 (by have := HBM.out; have := BB.out; omega) hbv.size
          obtain ⟨ad5, ead5, _, hok5, hcs5⟩ := items_cells (HI.out.below hB5) hlt
          cases ead5
          have HRD := Lib.hid (reads_no (x k) hok5.2.1 w5 gr n D bad HD.out hrd5 HZ.out (by omega) (by rw [HASK.out]; exact HNO.out))
          rw [← KD.out, ← NU.out] at hcs5 HRD
          have HCS5 := Lib.hid hcs5
          clear hok5 hcs5 hrd5 HTK
          go_wp2_with (refine wpList_load_cells rfl 30 _ rfl (ad.add (k * 3)) rfl #[.int .u8 (kd : Int), .int .u64 (nu : Int), .slice (x k).A (x k).n (x k).cap] _ HCS5.out Try.underlying30 rfl infoI ?_)
          refine HRD.out.mono ?_
          rintro e w6 ⟨rfl, hrd6, hk6⟩
          have hrm6 := hrm5.kept HBM.out hk6 (by have := HGM.out; omega) HBR.out
          have hin6 := (hk6.block gi (block_lt hin5) (by have := HGR.out; omega) (fun e => by cases e)).trans hin5
          have hB6 := kept_rd_below hB5 hk6 (by have := HBR.out; have := BB.out; omega) hB5.size
          have HBO6 : Hid (Both w6 B gi gr gm 0 io (fun _ => 0) true) := Lib.hid ⟨hrd6, hrm6, hin6⟩
          obtain ⟨d9, hrd9⟩ := HBO6.out.ends.rd
          have HRD9 := Lib.hid hrd9
          have hcc1 := HBO6.out.ends.c1
          obtain ⟨A9, cap9, hcc0⟩ := HBO6.out.ends.c0
          clear hrd6 hk6 hrm6 hin6 hrm5 hin5 hB5 hk5 HCS5 HRD hrd9 hc0 hc1
          go_wp2_with fail
          go_quiet ((first | (go_at_call 18; exact Calls.quiet_of_same (bad_q _ _ _ _ _ (HRD9.out.below (below_drewN (Below.refl _ _) _)))) | (go_at_call 19; exact Calls.quiet_of_same (left_z _ _ _ _ (HRD9.out.below (below_drewN (Below.refl _ _) _))))))
          have HBO7 := Lib.hid (HBO6.out.below HBM.out (below_drewN (Below.refl _ _) nq))
          have hB7 := below_drewN hB6 nq
          clear hcc0 hcc1 hB6 HBO6
          go_wp2_with fail
          go_roundw
          case rel => exact ⟨k + 1, 0, fun _ => 0, true, by omega, by go_num, by omega, HBO7, Lib.hid (fun _ => rfl), Lib.hid (fun _ => Nat.zero_lt_succ _), hB7⟩
          case measure => simp [intOf]; omega
    · have hin : Holds wr (gi + 1) (some ⟨gi, 0, none⟩) m bd := fun _ => ⟨_, rfl, Nat.lt_succ_self _, fun j hj => by
        have hg := HB.out.inn
        rw [IO.out] at hg
        have hadd : (⟨gi, 0, none⟩ : Addr).add j = ⟨gi, j, none⟩ := by unfold Addr.add; split <;> simp_all
        rw [hadd, cell_of_row _ _ _ _ _ _ hg]
        exact HCUR.out j hj⟩
      have hv1 := convert_holds (P := Try.prog) (src := 25) (dst := 9) HBD.out hin (fun h => by cases h) HN2.out Try.underlying25 Try.underlying5 Try.underlying9
      have hv2 := convert_holds (P := Try.prog) (src := 25) (dst := 9) HBD.out (HR.out.below hb) HA.out HMC.out Try.underlying25 Try.underlying5 Try.underlying9
      rw [← ST.out] at hv1 hv2
      clear hin HB
      go_wp2_with fail
      refine (works_any _).mono ?_
      rintro e w9 ⟨rfl, hb9⟩
      go_wp2_with fail
      go_ret
      exact ⟨rfl, below_step hb hb9 hb.size⟩
theorem fieldsReads_walk (bd : Nat → Nat) (Bh : Option Addr) (m c : Nat) (x : Nat → It) (LA : Option Addr) (ln lcap : Nat) (w : World) (hbd : ∀ i, bd i < 256) (hmc : m ≤ c) (hcm : c ≤ maxLen) (hr : Holds w w.heap.size Bh m bd) (hA : Bh = none → c = 0) (hl : ln ≤ lcap) (hlc : lcap ≤ maxLen) (hI : Items w w.heap.size LA ln x) :
    Calls Try.prog 4 #[.slice Bh m c, .slice LA ln lcap] w fun e w' => e = .returned (.bool true) ∧ Below w.heap.size w w' := by
  by_cases hm : 3000 < m
  · exact fieldsReads_a Bh m c LA ln lcap w hm
  · by_cases hn : 100 < ln
    · exact fieldsReads_b Bh m c LA ln lcap w (by omega) hn
    · exact fieldsReads_c bd Bh m c x LA ln lcap w hbd hmc hcm hr hA hlc hl hI (by omega) (by omega)
end Go.Proofs.Ytohojfgceaajfaa
