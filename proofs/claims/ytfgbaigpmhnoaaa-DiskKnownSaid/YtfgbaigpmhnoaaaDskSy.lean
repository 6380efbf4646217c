/- disk: DiskPlays, walked. -/
import Derived.Test.YtfgbaigpmhnoaaaDskSr
import Derived.Test.YtfgbaigpmhnoaaaDskSs
import Derived.Test.YtfgbaigpmhnoaaaDskSt
import Derived.Test.YtfgbaigpmhnoaaaDskSu
import Derived.Test.YtfgbaigpmhnoaaaDskSv
import Derived.Test.YtfgbaigpmhnoaaaDmSw
set_option linter.unusedVariables false
set_option linter.unusedSimpArgs false
namespace Go.Proofs.Ytfgbaigpmhnoaaa
open Go.RowKit Go.BigFrame Go.Maps
open Dsk (Fl St Ok get put drop used)

theorem does_any (w : World) (base db rbase rb kind : Nat) (G : Nat → Prop) (ro : Nat → Role) (S : St) (name to : ByteArray) (A A2 : Option Addr) (l : List Nat) (ks : List Int) (c c2 : Nat) (n : Int) (h : DoesIn w base db rbase rb G ro S A A2 l ks c)
    (hn : name.size ≤ maxLen) (ht : to.size ≤ maxLen) (hi1 : -9223372036854775808 ≤ n) (hi2 : n ≤ 9223372036854775807) (hll : l.length ≤ maxLen) (hk : kind < 256) :
    Calls Try.prog 13 #[.pointer (some ⟨db, 0, none⟩), .pointer (some ⟨rb, 0, none⟩), .agg #[.int .u8 (kind : Int), .string name, .string to, .slice A l.length c, .int .i64 n, .slice A2 ks.length c2]] w (DoesPost w base db rbase rb G ro S l.length) := by
  have hlt : kind % 12 < 12 := Nat.mod_lt _ (by omega)
  obtain ⟨m, hm⟩ : ∃ m, m = kind % 12 := ⟨_, rfl⟩
  rw [← hm] at hlt
  match m, hlt, hm with
  | 0, _, hm => exact does_0 w base db rbase rb kind G ro S name to A A2 l ks c c2 n h hn ht hi1 hi2 hll hk hm.symm
  | 1, _, hm => exact does_1 w base db rbase rb kind G ro S name to A A2 l ks c c2 n h hn ht hi1 hi2 hll hk hm.symm
  | 2, _, hm => exact does_2 w base db rbase rb kind G ro S name to A A2 l ks c c2 n h hn ht hi1 hi2 hll hk hm.symm
  | 3, _, hm => exact does_3 w base db rbase rb kind G ro S name to A A2 l ks c c2 n h hn ht hi1 hi2 hll hk hm.symm
  | 4, _, hm => exact does_4 w base db rbase rb kind G ro S name to A A2 l ks c c2 n h hn ht hi1 hi2 hll hk hm.symm
  | 5, _, hm => exact does_5 w base db rbase rb kind G ro S name to A A2 l ks c c2 n h hn ht hi1 hi2 hll hk hm.symm
  | 6, _, hm => exact does_6 w base db rbase rb kind G ro S name to A A2 l ks c c2 n h hn ht hi1 hi2 hll hk hm.symm
  | 7, _, hm => exact does_7 w base db rbase rb kind G ro S name to A A2 l ks c c2 n h hn ht hi1 hi2 hll hk hm.symm
  | 8, _, hm => exact does_8 w base db rbase rb kind G ro S name to A A2 l ks c c2 n h hn ht hi1 hi2 hll hk hm.symm
  | 9, _, hm => exact does_9 w base db rbase rb kind G ro S name to A A2 l ks c c2 n h hn ht hi1 hi2 hll hk hm.symm
  | 10, _, hm => exact does_10 w base db rbase rb kind G ro S name to A A2 l ks c c2 n h hn ht hi1 hi2 hll hk hm.symm
  | 11, _, hm => exact does_11 w base db rbase rb kind G ro S name to A A2 l ks c c2 n h hn ht hi1 hi2 hll hk hm.symm
theorem u8_in (k : Nat) (h : k < 256) : IntKind.u8.wrap (k : Int) = (k : Int) := by
  simp [IntKind.wrap, IntKind.signed, IntKind.bits]
  omega
theorem DiskAt.down {w : World} {base base' db : Nat} {ro : Nat → Role} {S : St} (h : DiskAt w base' db ro S) (hb : base ≤ base') : DiskAt w base db ro S := by
  obtain ⟨mb, n, D, av, h⟩ := h
  refine ⟨mb, n, D, av, h.blk, h.own, h.bnd, h.rdb, h.rmb, fun b hro => ⟨Nat.le_trans hb (h.old b hro).1, (h.old b hro).2⟩, h.has, h.arm, fun s f hs => ?_, h.ok⟩
  obtain ⟨fb, v, h1, h2⟩ := h.file s f hs
  exact ⟨fb, v, h1, h2.rfb, h2.blk, own_down h2.row hb, h2.rrow⟩
/-- Where the play is. -/
structure PlayAt (w wr : World) (db rb : Nat) (ro : Nat → Role) (S : St) (i : Nat) : Prop where
  disk : DiskAt wr w.heap.size db ro S
  ref : RefAt wr w.heap.size (Pg ro fun _ => False) rb S
  rbn : ro rb = .none
  below : Below w.heap.size w wr
  steps : S.steps ≤ i
  sum : used S.fs ≤ 5000 * i
theorem PlayAt.low {w wr : World} {db rb : Nat} {ro : Nat → Role} {S : St} {i : Nat} (h : PlayAt w wr db rb ro S i) {b : Nat} (hb : b < w.heap.size) : ro b = .none ∧ b ≠ rb := by
  refine ⟨?_, fun e => by have := h.ref.lt.2; omega⟩
  by_cases hr : ro b = .none
  · exact hr
  · have := own_ge h.disk (show Own ro b from hr); omega
theorem PlayAt.grow {w wr w' : World} {db rb : Nat} {ro : Nat → Role} {S : St} {i : Nat} (h : PlayAt w wr db rb ro S i) (hb : Below wr.heap.size wr w') : PlayAt w w' db rb ro S i :=
  ⟨h.disk.below hb, h.ref.below hb, h.rbn, below_step h.below hb h.below.size, h.steps, h.sum⟩
theorem PlayAt.doesIn {w wr : World} {db rb : Nat} {ro : Nat → Role} {S : St} {i : Nat} (h : PlayAt w wr db rb ro S i) (hi : i < 60) {A A2 : Option Addr} {l : List Nat} {ks : List Int} {c c2 : Nat} (hb : RB w w.heap.size (.slice A l.length c) l) (hl5 : l.length ≤ 5000) (hk : IntsAt w (fun b => b < w.heap.size) A2 ks) (hk5 : ks.length ≤ 5000) :
    DoesIn wr w.heap.size db w.heap.size rb (fun _ => False) ro S A A2 l ks c := by
  obtain ⟨A', c', e, h1, h2, h3, h4, h5⟩ := hb
  cases e
  have hst := h.steps
  have hsm := h.sum
  refine ⟨h.disk, h.ref, h.rbn, h.below.size, ⟨A, c, rfl, h1, h2, h3, fun h0 => ?_⟩, h5, fun j hj => ?_, by omega, by omega, by omega, fun _ _ e => e⟩
  · obtain ⟨ad, e1, hq, hc⟩ := h4 h0
    exact ⟨ad, e1, h.low hq, Nat.lt_of_lt_of_le hq h.below.size, fun j hj => (h.below.cell (by rw [add_block]; exact hq)).trans (hc j hj)⟩
  · obtain ⟨ad, e1, hq, hc⟩ := hk j hj
    exact ⟨ad, e1, h.low hq, (h.below.cell (by rw [add_block]; exact hq)).trans hc⟩
theorem PlayAt.next {w wr w' : World} {db rb : Nat} {ro : Nat → Role} {S S' : St} {i m : Nat} (h : PlayAt w wr db rb ro S i) (hm : m ≤ 5000) (h1 : S'.steps ≤ S.steps + 1 ∧ used S'.fs ≤ used S.fs + m) (hf : Fin2 wr w.heap.size db w.heap.size rb (fun _ => False) ro S' w') : ∃ ro', PlayAt w w' db rb ro' S' (i + 1) := by
  obtain ⟨ro1, d1, r1, n1, s1, c1⟩ := hf
  have hst := h.steps
  have hsm := h.sum
  have hrl := h.ref.lt.2
  exact ⟨ro1, d1, r1, n1, h.below.trans (c1.below h.below.size fun k hk => hk.elim (fun ho => own_ge h.disk ho) (fun e => by omega)), by omega, by omega⟩
/-- Behind a copy: what goes on, and what it is a copy of. -/
structure CopyAt (w w4 : World) (db rb db2 rb2 : Nat) (ro ro2 : Nat → Role) (S : St) (i B : Nat) : Prop where
  play : PlayAt w w4 db2 rb ro2 S i
  disk : DiskAt w4 w.heap.size db ro S
  ref : RefAt w4 w.heap.size (fun b => b < B ∧ b ≠ rb) rb2 S
  new : ∀ b, ro2 b ≠ .none → B ≤ b
  old : ∀ b, Own ro b → b < B ∧ b ≠ rb
  rbl : rb2 < B ∧ rb2 ≠ rb
theorem PlayAt.copy {w wr w3 w4 : World} {db rb db2 rb2 : Nat} {ro ro2 : Nat → Role} {S : St} {i : Nat} (h : PlayAt w wr db rb ro S i) (hb3 : Below wr.heap.size wr w3) (hr2 : RefAt w3 w.heap.size (fun b => Pg ro (fun _ => False) b ∧ b ≠ rb) rb2 S) (hge : wr.heap.size ≤ rb2)
    (hb4 : Below w3.heap.size w3 w4) (hd2 : DiskAt w4 w3.heap.size db2 ro2 S) : CopyAt w w4 db rb db2 rb2 ro ro2 S i w3.heap.size := by
  have hz3 := hb3.size
  have hwz := h.below.size
  have hrb := h.ref.lt.1
  have hb34 : Below wr.heap.size wr w4 := below_step hb3 hb4 hz3
  have hnew : ∀ b, ro2 b ≠ .none → w3.heap.size ≤ b := fun b hb => own_ge hd2 (show Own ro2 b from hb)
  have hnone : ∀ b, b < w3.heap.size → ro2 b = .none := fun b hb => by
    by_cases hr : ro2 b = .none
    · exact hr
    · have := hnew b hr; omega
  refine ⟨⟨hd2.down (by omega), (h.ref.mono (P' := Pg ro2 fun _ => False) fun b hb _ _ => ⟨hnone b (by omega), id⟩).below hb34, hnone rb (by omega), below_step h.below hb34 hwz, h.steps, h.sum⟩, h.disk.below hb34, (hr2.mono fun b hb hp _ => ⟨hb, hp.2⟩).below hb4, hnew, fun b ho => ?_, hr2.lt.1, by omega⟩
  obtain ⟨mb, n, D, av, hd⟩ := h.disk
  have := (hd.old b ho).2
  exact ⟨by omega, fun e => by subst e; exact ho h.rbn⟩
theorem CopyAt.grow {w w4 w' : World} {db rb db2 rb2 : Nat} {ro ro2 : Nat → Role} {S : St} {i B : Nat} (h : CopyAt w w4 db rb db2 rb2 ro ro2 S i B) (hb : Below w4.heap.size w4 w') : CopyAt w w' db rb db2 rb2 ro ro2 S i B :=
  ⟨h.play.grow hb, h.disk.below hb, h.ref.below hb, h.new, h.old, h.rbl⟩
theorem CopyAt.still {w w4 w' : World} {db rb db2 rb2 : Nat} {ro ro2 : Nat → Role} {S S' : St} {i B : Nat} (h : CopyAt w w4 db rb db2 rb2 ro ro2 S i B) (hf : Fin2 w4 w.heap.size db2 w.heap.size rb (fun _ => False) ro2 S' w') : DiskAt w' w.heap.size db ro S ∧ RefAt w' w.heap.size (fun b => b < B ∧ b ≠ rb) rb2 S := by
  obtain ⟨ro1, _, _, _, _, c1⟩ := hf
  have hn : ∀ b, b < B → ¬ Own ro2 b := fun b hb ho => by have := h.new b ho; omega
  exact ⟨h.disk.ch c1 (fun b ho hM => hM.elim (hn b (h.old b ho).1) (h.old b ho).2), h.ref.ch c1 (fun hM => hM.elim (hn rb2 h.rbl.1) h.rbl.2) (fun b _ hp _ hM => hM.elim (hn b hp.1) hp.2)⟩
/-- does on the copy: what it leaves, and that the other one stands. -/
def CDone (w : World) (db rb db2 rb2 : Nat) (ro : Nat → Role) (S : St) (i : Nat) (Q : Nat → Prop) (w' : World) : Prop := (∃ S' ro', PlayAt w w' db2 rb ro' S' (i + 1)) ∧ DiskAt w' w.heap.size db ro S ∧ RefAt w' w.heap.size Q rb2 S
theorem CDone.grow {w w4 w' : World} {db rb db2 rb2 : Nat} {ro : Nat → Role} {S : St} {i : Nat} {Q : Nat → Prop} (h : CDone w db rb db2 rb2 ro S i Q w4) (hb : Below w4.heap.size w4 w') : CDone w db rb db2 rb2 ro S i Q w' := by
  obtain ⟨⟨S', ro', h1⟩, h2, h3⟩ := h
  exact ⟨⟨S', ro', h1.grow hb⟩, h2.below hb, h3.below hb⟩
theorem CDone.size {w w4 : World} {db rb db2 rb2 : Nat} {ro : Nat → Role} {S : St} {i : Nat} {Q : Nat → Prop} (h : CDone w db rb db2 rb2 ro S i Q w4) : Below w.heap.size w w4 := by
  obtain ⟨⟨S', ro', h1⟩, _, _⟩ := h
  exact h1.below
set_option maxRecDepth 100000 in
set_option maxHeartbeats 16000000 in
theorem plays_w (w : World) (q : Int) (LA : Option Addr) (ln lcap : Nat) (x : Nat → Cl) (h : Calls6 w w.heap.size LA ln x) (hl : ln ≤ lcap) (hlm : lcap ≤ maxLen) (hq1 : -9223372036854775808 ≤ q) (hq2 : q ≤ 9223372036854775807) :
    Calls Try.prog 3 #[.int .i64 q, .slice LA ln lcap] w (YesPost w) := by
  have HP := Lib.hid (fun (w' : World) (hb : Below w.heap.size w w') => show YesPost w (.returned (.bool true)) w' from ⟨rfl, hb⟩)
  generalize YesPost w = post at *
  have HC := Lib.hid h
  have HLG := Lib.hid (large_any w LA ln lcap x h hl hlm)
  unfold maxLen at hlm
  clear h
  go_enter Try.func3, Try.ntmps3
  go_wp2_with fail
  refine HLG.out.mono ?_
  rintro e w1 ⟨b, rfl, hb1, hfit⟩
  have HB1 := Lib.hid hb1
  cases b with
  | true =>
    have HW := Lib.hid (works_any w1)
    clear hfit hb1 HLG
    go_wp2_with fail
    refine HW.out.mono ?_
    rintro e w2 ⟨rfl, hb2⟩
    have HQ := Lib.hid (HP.out w2 (below_step HB1.out hb2 HB1.out.size))
    clear hb2 HW HP
    go_wp2
    exact HQ.out
  | false =>
    obtain ⟨hl60, hfx⟩ := hfit rfl
    have HFX := Lib.hid hfx
    have HN := Lib.hid (new_any q w1 hq1 hq2)
    clear hfit hb1 HLG hfx
    go_wp2_with fail
    refine HN.out.mono ?_
    rintro e w2 ⟨db, ro, rfl, hd2, hb2⟩
    have HRN := Lib.hid (rnew_any q w2)
    have HD2 := Lib.hid (And.intro hd2 hb2)
    clear hd2 hb2 HN
    go_wp2_with fail
    refine HRN.out.mono ?_
    rintro e w3 ⟨rb, rfl, hr3, hb3⟩
    have HPL := Lib.hid (show PlayAt w w3 db rb ro ⟨if q ≤ 0 then 0 else q, [], 0, none, false⟩ 0 from by
      have hz1 := HB1.out.size
      have hz2 := HD2.out.2.size
      have hr := (hr3 (Pg ro fun _ => False)).lt
      refine ⟨(HD2.out.1.below hb3).down hz1, ?_, free_new HD2.out.1 hr.2, below_step (below_step HB1.out HD2.out.2 hz1) hb3 (by omega), Nat.le_refl _, by show (0 : Nat) ≤ _; omega⟩
      obtain ⟨fv, iv, es, hri⟩ := hr3 (Pg ro fun _ => False)
      exact ⟨fv, iv, es, by have := hri.low; omega, hri.blk, own_down hri.own (by omega), hri.ownp, hri.rows, hri.fs, hri.arm⟩)
    generalize (⟨if q ≤ 0 then 0 else q, [], 0, none, false⟩ : St) = S0 at *
    clear hr3 hb3 HRN HD2 HB1
    go_wp2
    go_loopw [5, 7, 8, 9] (fun dv iv _ _ wr => ∃ (i db : Nat) (ro : Nat → Role) (S : St), dv = .pointer (some ⟨db, 0, none⟩) ∧ iv = .int .i64 (i : Int) ∧ i ≤ ln ∧ Hid (PlayAt w wr db rb ro S i)) (fun _ iv _ _ _ => ln - (intOf iv).toNat)
    case atStart => exact ⟨0, db, ro, S0, rfl, rfl, by omega, HPL⟩
    case round =>
      clear HPL
      obtain ⟨i, db, ro, S, rfl, rfl, hi, HPA⟩ := hrel
      by_cases hlt : i < ln
      · obtain ⟨ad, rfl, hok, g0, g1, g2, g3, g4, g5⟩ := (HC.out.below HPA.out.below).at hlt
        obtain ⟨hf1, hf2, hf3, hf4⟩ := HFX.out i hlt
        have hokw : ClOk w w.heap.size (x i) := by obtain ⟨_, _, _, hh⟩ := HC.out (by omega); exact (hh i hlt).1
        obtain ⟨Ab, cb, hbv, hb1, hb2, _⟩ := hokw.b
        obtain ⟨Ak, ck, hkv, hk1, hk2, hks⟩ := hokw.ks
        have hrb := hokw.b
        rw [hbv] at g3 hrb
        rw [hkv] at g5
        have hnz := hokw.name
        have htz := hokw.to
        have hnn := bounds_i64 hokw.n
        have hkd := hokw.kind
        have HX := Lib.hid (And.intro hrb (And.intro hks (And.intro hnz (And.intro htz (And.intro hnn hkd)))))
        have HF := Lib.hid (And.intro hf1 (And.intro hf2 (And.intro hf3 hf4)))
        clear hok hokw hbv hkv hrb hks hnz htz hnn hf1 hf2 hf3 hf4 hb1 hb2 hk1 hk2
        generalize (x i).name = nm at *
        generalize (x i).to = to at *
        generalize (x i).b = bl at *
        generalize (x i).ks = kl at *
        generalize (x i).n = xn at *
        generalize (x i).kind = xk at *
        have hk0 : (0 : Int) ≤ (xk : Int) := by omega
        have hk255 : (xk : Int) ≤ 255 := by omega
        have HBL := Lib.hid (show bl.length ≤ maxLen from by have := HF.out.2.2.1; unfold maxLen; omega)
        have hwz := HPA.out.below.size
        by_cases hc : xk % 12 = 11
        · have hm1 : (xk : Int) % 12 = 11 := by omega
          have hm2 : (xk : Int).tmod 12 = 11 := by rw [Int.tmod_eq_emod_of_nonneg hk0]; omega
          have hdv : (xk : Int) / 12 = ((xk / 12 : Nat) : Int) := by omega
          have hdv2 : (xk : Int).tdiv 12 = ((xk / 12 : Nat) : Int) := by rw [Int.tdiv_eq_ediv_of_nonneg hk0]; omega
          have hok : Ok S := by obtain ⟨_, _, _, _, hh⟩ := HPA.out.disk; exact hh.ok
          have HRC := Lib.hid (rcopy_any HPA.out.ref (Nat.le_trans hok.few hok.low) (fun b hb => ⟨free_new HPA.out.disk hb, id⟩))
          clear hok hc
          go_wp2_with fail
          refine HRC.out.mono ?_
          rintro e w3 ⟨hb3, rb2, rfl, hge, hr2⟩
          have HCP := Lib.hid (copy_any w3 w.heap.size db ro S (HPA.out.disk.below hb3))
          have H3 := Lib.hid (And.intro hb3 (And.intro hge hr2))
          clear hb3 hge hr2 HRC
          go_wp2_with fail
          refine HCP.out.mono ?_
          rintro e w4 ⟨db2, ro2, rfl, hd4, hb4⟩
          have HCA := Lib.hid (HPA.out.copy H3.out.1 H3.out.2.2 H3.out.2.1 hb4 hd4)
          generalize w3.heap.size = B at *
          clear hb4 hd4 HCP H3 hwz g2 g4 g5
          generalize hkq : xk / 12 = kq at *
          have hkq2 : kq < 256 := by omega
          have HKQ := Lib.hid hkq2
          have hwr := u8_in kq hkq2
          have hkk0 : KeepW w4 w4.heap.size w4 := KeepW.start (Nat.le_refl _)
          have hbw := HCA.out.play.below
          have HG := Lib.hid (show ad.block < w.heap.size ∧ w.cell? (ad.add (i * 6)) = some (.int .u8 (xk : Int)) ∧ w.cell? ⟨(ad.add (i * 6)).block, (ad.add (i * 6)).off + 1, none⟩ = some (.string nm) ∧ w.cell? ⟨(ad.add (i * 6)).block, (ad.add (i * 6)).off + 3, none⟩ = some (.slice Ab bl.length cb) from by
            obtain ⟨ad', e, hlb, _⟩ := HC.out (by omega)
            cases e
            have hb := HPA.out.below
            refine ⟨hlb, ?_, ?_, ?_⟩
            · rw [← hb.cell (p := ad.add (i * 6)) (by rw [add_block]; exact hlb)]; exact g0
            · rw [← hb.cell (p := ⟨(ad.add (i * 6)).block, (ad.add (i * 6)).off + 1, none⟩) (by show (ad.add (i * 6)).block < _; rw [add_block]; exact hlb)]; exact g1
            · rw [← hb.cell (p := ⟨(ad.add (i * 6)).block, (ad.add (i * 6)).off + 3, none⟩) (by show (ad.add (i * 6)).block < _; rw [add_block]; exact hlb)]; exact g3)
          have hcells : ∀ w' : World, Below w.heap.size w w' → (w'.cell? (ad.add (i * 6)) = some (.int .u8 (xk : Int)) ∧ w'.cell? ⟨(ad.add (i * 6)).block, (ad.add (i * 6)).off + 1, none⟩ = some (.string nm) ∧ w'.cell? ⟨(ad.add (i * 6)).block, (ad.add (i * 6)).off + 3, none⟩ = some (.slice Ab bl.length cb)) := fun w' hb => by
            refine ⟨?_, ?_, ?_⟩
            · rw [hb.cell (p := ad.add (i * 6)) (by rw [add_block]; exact HG.out.1)]; exact HG.out.2.1
            · rw [hb.cell (p := ⟨(ad.add (i * 6)).block, (ad.add (i * 6)).off + 1, none⟩) (by show (ad.add (i * 6)).block < _; rw [add_block]; exact HG.out.1)]; exact HG.out.2.2.1
            · rw [hb.cell (p := ⟨(ad.add (i * 6)).block, (ad.add (i * 6)).off + 3, none⟩) (by show (ad.add (i * 6)).block < _; rw [add_block]; exact HG.out.1)]; exact HG.out.2.2.2
          have HKK := Lib.hid (fun (w' : World) (hk : KeepW w4 w4.heap.size w') => hcells w' (below_step hbw hk.1 hbw.size))
          have HKD := Lib.hid (fun (w' : World) (hk : CDone w db rb db2 rb2 ro S i (fun b => b < B ∧ b ≠ rb) w') => hcells w' hk.size)
          have HDO := Lib.hid (fun (w' : World) (hk : KeepW w4 w4.heap.size w') => (does_any w' w.heap.size db2 w.heap.size rb kq (fun _ => False) ro2 S nm ⟨#[]⟩ Ab none bl [] cb 0 0 ((HCA.out.grow hk.1).play.doesIn (c2 := 0) (by omega) HX.out.1 HF.out.2.2.1 (A2 := none) (ks := []) (fun j hj => by simp at hj) (by simp)) HX.out.2.2.1 (by decide) (by decide) (by decide) HBL.out HKQ.out).mono fun (e : Ending) w2 ⟨he, S', h1, hf⟩ => (⟨he, (HCA.out.grow hk.1).play.next HF.out.2.2.1 h1 hf |>.elim fun ro' hp => ⟨S', ro', hp⟩, (HCA.out.grow hk.1).still hf⟩ : e = Ending.returned (.bool true) ∧ CDone w db rb db2 rb2 ro S i (fun b => b < B ∧ b ≠ rb) w2))
          have HTE := Lib.hid (fun (w' : World) (hk : CDone w db rb db2 rb2 ro S i (fun b => b < B ∧ b ≠ rb) w') => (tells_any w' w.heap.size db w.heap.size rb2 ro (fun b => b < B ∧ b ≠ rb) S hk.2.1 hk.2.2).mono fun (e : Ending) w2 ⟨he, hb⟩ => (⟨he, hk.grow hb⟩ : e = Ending.returned (.bool true) ∧ CDone w db rb db2 rb2 ro S i (fun b => b < B ∧ b ≠ rb) w2))
          clear hcells hbw g0 g1 g3
          go_wp2_with fail
          go_region_held3 (fun w' => (w'.cell? (ad.add (i * 6)) = some (.int .u8 (xk : Int)) ∧ w'.cell? ⟨(ad.add (i * 6)).block, (ad.add (i * 6)).off + 1, none⟩ = some (.string nm) ∧ w'.cell? ⟨(ad.add (i * 6)).block, (ad.add (i * 6)).off + 3, none⟩ = some (.slice Ab bl.length cb))) (first | exact HKK.out _ (by assumption) | exact HKK.out _ (KeepW.drew (by assumption)) | exact HKD.out _ (by assumption) | exact HKD.out _ (CDone.grow (by assumption) (Below.refl _ _).drew) | go_keep) (first | (go_at_call 13; refine (HDO.out _ (by first | assumption | exact KeepW.drew (by assumption))).mono ?_; rintro e w5 ⟨rfl, hm5⟩) | (go_at_call 14; refine (HTE.out _ (by first | assumption | exact CDone.grow (by assumption) (Below.refl _ _).drew)).mono ?_; rintro e w6 ⟨rfl, hf6⟩))
          obtain ⟨⟨S', ro', hp⟩, _, _⟩ := hf6
          have HN1 := Lib.hid hp
          clear hm5 hp HKK HKD HDO HTE HPA HCA
          go_wp2
          go_roundw
          case rel => exact ⟨i + 1, db2, ro', S', rfl, by go_num, by omega, HN1⟩
          case measure => simp [intOf]; omega
        · have hm1 : ((xk : Int) % 12 == 11) = false := by simp; omega
          have hm2 : ((xk : Int).tmod 12 == 11) = false := by rw [Int.tmod_eq_emod_of_nonneg hk0]; exact hm1
          have HDO := Lib.hid (does_any wr w.heap.size db w.heap.size rb xk (fun _ => False) ro S nm to Ab Ak bl kl cb ck xn (HPA.out.doesIn (c2 := ck) (by omega) HX.out.1 HF.out.2.2.1 HX.out.2.1 HF.out.2.2.2) HX.out.2.2.1 HX.out.2.2.2.1 HX.out.2.2.2.2.1.1 HX.out.2.2.2.2.1.2 HBL.out hkd)
          clear hc
          go_wp2_with fail
          refine HDO.out.mono ?_
          rintro e w5 ⟨rfl, S', h1, hf5⟩
          obtain ⟨ro', hp5⟩ := HPA.out.next HF.out.2.2.1 h1 hf5
          have HTE := Lib.hid (tells_any w5 w.heap.size db w.heap.size rb ro' _ S' hp5.disk hp5.ref)
          have HP5 := Lib.hid hp5
          clear h1 hf5 hp5 HDO HPA g0 g1 g2 g3 g4 g5 hwz
          go_wp2_with fail
          refine HTE.out.mono ?_
          rintro e w6 ⟨rfl, hb6⟩
          have HN1 := Lib.hid (HP5.out.grow hb6)
          clear hb6 HTE HP5
          go_wp2
          go_roundw
          case rel => exact ⟨i + 1, db, ro', S', rfl, by go_num, by omega, HN1⟩
          case measure => simp [intOf]; omega
      · obtain rfl : i = ln := by omega
        have HW := Lib.hid (works_any wr)
        go_wp2_with fail
        refine HW.out.mono ?_
        rintro e w5 ⟨rfl, hb5⟩
        have HQ := Lib.hid (HP.out w5 (below_step HPA.out.below hb5 HPA.out.below.size))
        clear hb5 HW HP HPA
        go_wp2
        exact HQ.out
theorem diskPlays_walk (q : Int) (x : Nat → Cl) (LA : Option Addr) (ln lcap : Nat) (w : World) (hq : (Lit.int .i64 q).wf = true) (hl : ln ≤ lcap ∧ lcap ≤ maxLen) (h : Calls6 w w.heap.size LA ln x) :
    Calls Try.prog 3 #[.int .i64 q, .slice LA ln lcap] w fun e w' => e = .returned (.bool true) ∧ Below w.heap.size w w' :=
  (plays_w w q LA ln lcap x h hl.1 hl.2 (bounds_i64 hq).1 (bounds_i64 hq).2).mono fun _ _ h => h
end Go.Proofs.Ytfgbaigpmhnoaaa
