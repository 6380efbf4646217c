/- disk: Append. -/
import Derived.Test.YtfgbaigpmhnoaaaDskH
import Derived.Test.YtfgbaigpmhnoaaaDskF
import Derived.Test.YtfgbaigpmhnoaaaKeep
set_option linter.unusedVariables false
set_option linter.unusedSimpArgs false
namespace Go.Proofs.Ytfgbaigpmhnoaaa
open Go.RowKit Go.BigFrame Go.Maps
open Dsk (Fl St Ok get put drop used)

def noFl : Fl := ⟨[], 0, false⟩
def getF (fs : Dsk.FS) (s : ByteArray) : Fl := (get fs s).getD noFl
/-- Append: the state behind it; what it answers. -/
def appS (S : St) (s : ByteArray) (l : List Nat) : St := stepEnd S { plus1 S with fs := put S.fs s (grow1 (getF S.fs s) l) } true
def appendS (S : St) (s : ByteArray) (l : List Nat) : St :=
  if refC S [s] ≠ 0 then S else if 8388608 < (getF S.fs s).b.length + l.length then S else if S.quota < (used S.fs : Int) + (l.length : Int) then S else appS S s l
def appendC (S : St) (s : ByteArray) (l : List Nat) : Int :=
  if refC S [s] ≠ 0 then refC S [s] else if 8388608 < (getF S.fs s).b.length + l.length then 3 else if S.quota < (used S.fs : Int) + (l.length : Int) then 41 else stepC S.armed
theorem refC_one {S : St} {s : ByteArray} (h : refC S [s] = 0) : 0 < s.size ∧ s.size ≤ 128 := by
  unfold refC at h
  split at h
  · cases h
  · split at h
    · rename_i _ h2
      simp [nameOk] at h2
      exact h2
    · cases h
theorem Left.below {w w' : World} {base db : Nat} {ro : Nat → Role} {S : St} (h : DiskAt w base db ro S) (hb : Below w.heap.size w w') : Left w w' base db ro S ro := by
  refine ⟨h.below hb, Sub.refl _ _, Ch.of_below hb _ (fun k hk hk2 => by omega)⟩
theorem free_new {w : World} {base db : Nat} {ro : Nat → Role} {S : St} (h : DiskAt w base db ro S) {p : Nat} (hp : w.heap.size ≤ p) : ro p = .none := by
  obtain ⟨mb, n, D, av, h⟩ := h
  cases hr : ro p with
  | none => rfl
  | _ => have := (h.old p (by rw [hr]; simp)).2; omega
theorem nrow_one (w : World) (s : ByteArray) (hs : s.size ≤ maxLen) : NRow (w.alloc (.cells #[.string s] 9)) (.slice (some ⟨w.heap.size, 0, none⟩) 1 1) [s] :=
  ⟨reads_new w #[.string s] 9 (strs [s]) rfl (by simp [strs]), fun t ht => by simp at ht; subst ht; exact hs⟩
theorem Holds.ch {w w' : World} {B : Nat} {A : Option Addr} {m : Nat} {d : Nat → Nat} {M : Nat → Prop} (h : Holds w B A m d) (hc : Ch w w' M) (hm : 0 < m → ∀ ad, A = some ad → ad.block < B → ¬ M ad.block) : Holds w' B A m d := fun h0 => by
  obtain ⟨ad, e, hl, hcc⟩ := h h0
  exact ⟨ad, e, hl, fun j hj => hc.cell (hcc j hj) (by rw [add_block]; exact hm h0 ad e hl)⟩
/-- What Append knows when it comes to the step. -/
structure AppAt (w W : World) (base db mb n : Nat) (D : DataW Unit) (av : Value) (ro ro4 : Nat → Role) (S : St) (s : ByteArray) (fb : Nat) (f : Fl) (v : Value) (p0 p1 p2 p3 : Nat) (A : Option Addr) (m c : Nat) (dd : Nat → Nat) : Prop where
  disk : DiskIn W base db mb n D av ro4 S
  file : FileAt W base ro4 s fb v f
  flen : Dsk.lenO (get S.fs s) = f.b.length
  isf : getF S.fs s = f
  fok : f.sure ≤ f.b.length ∧ ∀ x ∈ f.b, x < 256
  c0 : W.cell? ⟨p0, 0, none⟩ = some (.pointer (some ⟨fb, 0, none⟩))
  c1 : W.cell? ⟨p1, 0, none⟩ = some (.slice A m c)
  c2 : W.cell? ⟨p2, 0, none⟩ = some (.pointer (some ⟨db, 0, none⟩))
  c3 : W.cell? ⟨p3, 0, none⟩ = some (.string s)
  free : ro4 p0 = .none ∧ ro4 p1 = .none ∧ ro4 p2 = .none ∧ ro4 p3 = .none
  bytes : Holds W w.heap.size A m dd
  bown : 0 < m → ∀ ad, A = some ad → ad.block < w.heap.size → ro4 ad.block = .none
  left : Left w W base db ro S ro4
theorem AppAt.drewN {w W : World} {base db mb n : Nat} {D : DataW Unit} {av : Value} {ro ro4 : Nat → Role} {S : St} {s : ByteArray} {fb : Nat} {f : Fl} {v : Value} {p0 p1 p2 p3 : Nat} {A : Option Addr} {m c : Nat} {dd : Nat → Nat} (h : AppAt w W base db mb n D av ro ro4 S s fb f v p0 p1 p2 p3 A m c dd) (q : Nat) : AppAt w (W.drewN q) base db mb n D av ro ro4 S s fb f v p0 p1 p2 p3 A m c dd := by
  have hc : Ch W (W.drewN q) (fun _ => False) := (Ch.refl W _).drewN q
  exact ⟨h.disk.drewN q, h.file.ch hc (fun _ _ h => h), h.flen, h.isf, h.fok, hc.cell h.c0 id, hc.cell h.c1 id, hc.cell h.c2 id, hc.cell h.c3 id, h.free, h.bytes.ch hc (fun _ _ _ _ h => h), h.bown, ⟨⟨mb, n, D, av, h.disk.drewN q⟩, h.left.sub, h.left.ch.drewN q⟩⟩
/-- The step at the end. -/
theorem AppAt.step {w W : World} {base db mb n : Nat} {D : DataW Unit} {av : Value} {ro ro4 : Nat → Role} {S : St} {s : ByteArray} {fb : Nat} {f : Fl} {v : Value} {p0 p1 p2 p3 : Nat} {A : Option Addr} {m c : Nat} {dd : Nat → Nat} (h : AppAt w W base db mb n D av ro ro4 S s fb f v p0 p1 p2 p3 A m c dd)
    (hA : A = none → c = 0) (hmc : m ≤ c) (hd : ∀ i, dd i < 256) (hbase : base ≤ w.heap.size) (hst : S.steps < 1000000000) (hsum : used S.fs + m ≤ 1000000000000) (h0 : 0 < s.size) (h1 : s.size ≤ 128) (hl : ¬ 8388608 < f.b.length + m) (hq : ¬ S.quota < (used S.fs : Int) + (m : Int)) :
    Calls Try.prog 39 #[.pointer (some ⟨db, 0, none⟩), .bool true, .func (.func 40) #[] #[.pointer (some ⟨p0, 0, none⟩), .pointer (some ⟨p1, 0, none⟩), .pointer (some ⟨p2, 0, none⟩), .pointer (some ⟨p3, 0, none⟩)]] W (DoneR w base db ro (appS S s (listD dd m)) (.int .i64 (stepC S.armed))) := by
  have hdp := h.disk.plus hst
  have hne : ∀ p, ro4 p = .none → p ≠ db := fun p e e' => by rw [e', h.disk.rdb] at e; cases e
  have hc : Ch W (world1 W db S) (fun b => b = db) := (Ch.refl W (fun b => b = db)).setCell (p := ⟨db, 3, none⟩) rfl _
  have hzz : w.heap.size ≤ (world1 W db S).heap.size := Nat.le_trans h.left.ch.size hc.size
  have hfb : fb ≠ db := fun e => by have := h.file.rfb; rw [e, h.disk.rdb] at this; cases this
  have hfew : (put (plus1 S).fs s (grow1 f (listD dd m))).length ≤ (plus1 S).steps := by
    have h2 := Dsk.len_put S.fs s (grow1 f (listD dd m))
    have h3 := h.disk.ok.few
    show (put S.fs s _).length ≤ S.steps + 1
    omega
  have hdo := append1_any (world1 W db S) base db mb n D av ro4 (plus1 S) s fb f v p0 p1 p2 p3 A m c dd hdp.1 (h.file.ch hc fun b hb hM => by subst hM; rw [h.disk.rdb] at hb; rcases hb with hb | hb <;> cases hb) h.flen h.fok
    (hc.cell h.c0 (hne _ h.free.1)) (hc.cell h.c1 (hne _ h.free.2.1)) (hc.cell h.c2 (hne _ h.free.2.2.1)) (hc.cell h.c3 (hne _ h.free.2.2.2)) h.free
    ((h.bytes.ch hc fun h0 ad e hl => hne _ (h.bown h0 ad e hl)).more hzz) hA hmc hd (Nat.le_trans hbase hzz) (by omega) (by show (used S.fs : Int) + (m : Int) ≤ S.quota; omega) hsum h0 h1 hfew (by have := h.disk.bnd; show n + 1 ≤ S.steps + 1; omega)
  have hstep := step_append W base db mb n D av ro4 S { plus1 S with fs := put S.fs s (grow1 f (listD dd m)) } true p0 p1 p2 p3 h.disk hst rfl (fun _ => hdo)
  refine hstep.mono ?_
  rintro e w' ⟨he, ro', hl'⟩
  refine ⟨he, ro', ?_⟩
  unfold appS
  rw [h.isf]
  exact h.left.trans hl'
set_option maxRecDepth 100000 in
set_option maxHeartbeats 4000000 in
theorem append_any (w : World) (base db : Nat) (ro : Nat → Role) (S : St) (s : ByteArray) (A : Option Addr) (m c : Nat) (dd : Nat → Nat) (h : DiskAt w base db ro S) (hs : s.size ≤ maxLen) (hr : Holds w w.heap.size A m dd) (hA : A = none → c = 0) (hmc : m ≤ c) (hcm : c ≤ maxLen) (hd : ∀ i, dd i < 256) (hbase : base ≤ w.heap.size)
    (hst : S.steps < 1000000000) (hsum : used S.fs + m ≤ 1000000000000) (hbo : 0 < m → ∀ ad, A = some ad → ro ad.block = .none) :
    Calls Try.prog 17 #[.pointer (some ⟨db, 0, none⟩), .string s, .slice A m c] w (DoneR w base db ro (appendS S s (listD dd m)) (.int .i64 (appendC S s (listD dd m)))) := by
  have HP := Lib.hid (fun (c : Int) (w' : World) (hc : c = appendC S s (listD dd m)) (S' : St) (hS : S' = appendS S s (listD dd m)) (ro1 : Nat → Role) (hl : Left w w' base db ro S' ro1) => show DoneR w base db ro (appendS S s (listD dd m)) (.int .i64 (appendC S s (listD dd m))) (.returned (.int .i64 c)) w' from ⟨by rw [hc], ro1, hS ▸ hl⟩)
  generalize DoneR w base db ro (appendS S s (listD dd m)) (.int .i64 (appendC S s (listD dd m))) = post at *
  have HD := Lib.hid h
  have HS := Lib.hid hs
  have HR := Lib.hid hr
  have HA := Lib.hid (And.intro hA (And.intro hd hbo))
  have HCM := Lib.hid hcm
  clear h hs hr hA hd hbo hcm
  go_enter Try.func17, Try.ntmps17
  go_upto_region 1 with (fail)
  obtain ⟨W1, hW1, hg0, hg1, hg2, hb1, hz1⟩ := rows3 w (.cells #[.pointer (some ⟨db, 0, none⟩)] 25) (.cells #[.string s] 9) (.cells #[.slice A m c] 29)
  rw [← hW1]
  obtain ⟨b0, hb0⟩ : ∃ b0, b0 = w.heap.size := ⟨_, rfl⟩
  have c0 : W1.cell? ⟨w.heap.size, 0, none⟩ = some (.pointer (some ⟨db, 0, none⟩)) := by rw [blk_cell hg0]; rfl
  have c1 : W1.cell? ⟨w.heap.size + 1, 0, none⟩ = some (.string s) := by rw [blk_cell hg1]; rfl
  have c2 : W1.cell? ⟨w.heap.size + 1 + 1, 0, none⟩ = some (.slice A m c) := by rw [blk_cell hg2]; rfl
  have HRF := Lib.hid (refuse_any (W1.alloc (.cells #[.string s] 9)) base db ro S (.slice (some ⟨W1.heap.size, 0, none⟩) 1 1) [s] (HD.out.below (hb1.alloc (by omega) _)) (nrow_one W1 s HS.out) (by simp))
  have HB1 := Lib.hid hb1
  have HZ1 := Lib.hid hz1
  have HG := Lib.hid (And.intro hg0 (And.intro hg1 hg2))
  clear hW1 hg0 hg1 hg2 hb1 hz1 hb0
  have hvals := refC_vals S [s]
  by_cases hc : refC S [s] = 0
  · rw [hc] at HRF
    have HRC := Lib.hid hc
    clear hc hvals
    go_wp2_with fail
    refine HRF.out.mono ?_
    rintro e w' ⟨rfl, hw⟩
    obtain rfl := hw.symm
    go_upto_region 4 with (fail)
    obtain ⟨W2, hW2, _, hb2, hz2, hbw⟩ := row_at w W1 (.cells #[.string s] 9) HB1.out
    rw [← hW2]
    obtain ⟨mb, n, D, av, hd2⟩ := HD.out.below hbw
    obtain ⟨_, e1, _, _, _, _⟩ := hd2.cells
    have c0 := (hb2.cell (p := ⟨w.heap.size, 0, none⟩) (by show w.heap.size < _; have := HZ1.out; omega)).trans c0
    have c1 := (hb2.cell (p := ⟨w.heap.size + 1, 0, none⟩) (by show w.heap.size + 1 < _; have := HZ1.out; omega)).trans c1
    have c2 := (hb2.cell (p := ⟨w.heap.size + 1 + 1, 0, none⟩) (by show w.heap.size + 1 + 1 < _; have := HZ1.out; omega)).trans c2
    have HLK := Lib.hid (fun (w' : World) (hb : KeepW W2 W2.heap.size w') => show DiskIn w' base db mb n D av ro S from hd2.ch (Ch.of_below hb.1 (fun b => W2.heap.size ≤ b) (fun k _ hk => hk)) (fun b hb' hM => by have := (hd2.old b hb').2; omega))
    have HD2 := Lib.hid hd2
    have HBW := Lib.hid hbw
    have HZ2 := Lib.hid hz2
    clear hW2 hb2 hz2 hbw hd2 HRF
    cases hg : get S.fs s with
    | none =>
      have HKK := Lib.hid (fun (w' : World) (hb : KeepW W2 W2.heap.size w') => show (w'.cell? ⟨w.heap.size, 0, none⟩ = some (.pointer (some ⟨db, 0, none⟩)) ∧ w'.cell? ⟨w.heap.size + 1, 0, none⟩ = some (.string s) ∧ w'.cell? ⟨db, 1, none⟩ = some (.map (some mb)) ∧ (Instr.lookup 55 (.map (some mb)) (.string s) false).run Try.prog w' = .ok (.pointer none) w') ∧ KeepW W2 W2.heap.size w' from by
        refine ⟨⟨(hb.1.cell (p := ⟨w.heap.size, 0, none⟩) (block_lt_of_cell c0)).trans c0, (hb.1.cell (p := ⟨w.heap.size + 1, 0, none⟩) (block_lt_of_cell c1)).trans c1, (HLK.out w' hb).cells.2.1, ?_⟩, hb⟩
        rcases (HLK.out w' hb).look s HS.out with ⟨_, h⟩ | ⟨f, _, _, hf, _⟩
        · exact h
        · rw [hg] at hf; cases hf)
      have hk0 := KeepW.start (Nat.le_refl W2.heap.size)
      go_region_held3 (fun w' => (w'.cell? ⟨w.heap.size, 0, none⟩ = some (.pointer (some ⟨db, 0, none⟩)) ∧ w'.cell? ⟨w.heap.size + 1, 0, none⟩ = some (.string s) ∧ w'.cell? ⟨db, 1, none⟩ = some (.map (some mb)) ∧ (Instr.lookup 55 (.map (some mb)) (.string s) false).run Try.prog w' = .ok (.pointer none) w') ∧ KeepW W2 W2.heap.size w') (first | exact HKK.out _ (by assumption) | exact HKK.out _ (KeepW.drew (by assumption)) | exact HKK.out _ (KeepW.alloc (by assumption) _) | exact HKK.out _ (KeepW.alloc (KeepW.drew (by assumption)) _) | go_keep) (fail)
      all_goals
        have k0 : ((W2.alloc (.cells #[.pointer none] 62)).drew).cell? ⟨W2.heap.size, 0, none⟩ = some (.pointer none) := by
          have := heap_alloc_new W2 (.cells #[.pointer none] 62)
          show (W2.alloc _).cell? _ = _
          rw [blk_cell this]; rfl
        have kf : ((W2.alloc (.cells #[.pointer none] 62)).drew).frozen? ⟨W2.heap.size, 0, none⟩ = false := by
          have := heap_alloc_new W2 (.cells #[.pointer none] 62)
          exact blk_free this 0
        go_upto_region 7 with (fail)
        obtain ⟨W4, hW4⟩ : ∃ W4, W4 = ((W2.alloc (.cells #[.pointer (some ⟨W2.heap.size + 1, 0, none⟩)] 62)).alloc (.cells #[.slice none 0 0, .int .i64 0, .bool false] 64)).drew := ⟨_, rfl⟩
        rw [← hW4]
        have hb4 : Below W2.heap.size W2 W4 := hW4 ▸ (((Below.refl _ _).alloc (Nat.le_refl _) _).alloc (by simp) _).drew
        have hz4 : W4.heap.size = W2.heap.size + 2 := by rw [hW4]; show ((W2.alloc _).alloc _).heap.size = _; simp
        have hbw4 : Below w.heap.size w W4 := below_step HBW.out hb4 HBW.out.size
        have hg0 : W4.heap[W2.heap.size]? = some (.cells #[.pointer (some ⟨W2.heap.size + 1, 0, none⟩)] 62 (0, 0)) := by
          rw [hW4]; exact heap_alloc2_old W2 _ _
        have hg1 : W4.heap[W2.heap.size + 1]? = some (.cells #[.slice none 0 0, .int .i64 0, .bool false] 64 (0, 0)) := by
          rw [hW4]; exact heap_alloc2_new W2 _ _
        have hw2 : w.heap.size + 3 ≤ W2.heap.size := by have := HZ2.out; have := HZ1.out; omega
        have hfree : ∀ p, w.heap.size ≤ p → ro p = .none := fun p hp => free_new HD.out hp
        have hdk := HLK.out W4 ⟨hb4, hb4.size⟩
        obtain ⟨fb, hfb⟩ : ∃ fb, fb = W2.heap.size + 1 := ⟨_, rfl⟩
        have hroe : ∀ b, b ≠ W2.heap.size + 1 → (if b = W2.heap.size + 1 then Role.file s else ro b) = ro b := fun b hb => if_neg hb
        have HFL8 : noFl.b.length ≤ 8388608 := by decide
        have HATX : AppAt w W4 base db mb n D av ro (fun b => if b = W2.heap.size + 1 then .file s else ro b) S s (W2.heap.size + 1) noFl (.slice none 0 0) W2.heap.size (w.heap.size + 1 + 1) w.heap.size (w.heap.size + 1) A m c dd := by
          have hdd := hdk.add (fb := W2.heap.size + 1) (hfree _ (by omega)) (Nat.le_trans hbase (by omega)) (by omega) (.file s)
          refine ⟨hdd, ⟨by simp, hg1, World.ownsRow_nil _ _ _ _, fun g e => by cases e⟩, by rw [hg]; rfl, by unfold getF; rw [hg]; rfl, ⟨by decide, fun x hx => by cases hx⟩, by rw [blk_cell hg0]; rfl, (hb4.cell (p := ⟨w.heap.size + 1 + 1, 0, none⟩) (block_lt_of_cell c2)).trans c2, (hb4.cell (p := ⟨w.heap.size, 0, none⟩) (block_lt_of_cell c0)).trans c0, (hb4.cell (p := ⟨w.heap.size + 1, 0, none⟩) (block_lt_of_cell c1)).trans c1,
            ⟨(hroe _ (by omega)).trans (hfree _ (by omega)), (hroe _ (by omega)).trans (hfree _ (by omega)), (hroe _ (by omega)).trans (hfree _ (by omega)), (hroe _ (by omega)).trans (hfree _ (by omega))⟩, HR.out.below hbw4, fun h0 ad e hl => (hroe _ (by omega)).trans (HA.out.2.2 h0 ad e), ⟨⟨mb, n, D, av, hdd⟩, fun b hb ho => ?_, Ch.of_below hbw4 _ (fun k hk hk2 => by omega)⟩⟩
          unfold Own at ho ⊢
          dsimp only at ho
          rwa [if_neg (by omega)] at ho
        clear hW4 hb4 hbw4 hg0 hg1 hw2 hfree hdk hroe k0 kf hg hfb
        generalize W2.heap.size + 1 = fb at *
        generalize (fun b => if b = fb then Role.file s else ro b) = ro4 at *
        generalize hnf : noFl = f at *
        clear hnf
        have HAT := Lib.hid HATX
        obtain ⟨Af, capf, hvv⟩ := own_sl HAT.out.file.row
        have HSQ := Lib.hid (show used S.fs ≤ 1000000000000 by omega)
        have q0 := HAT.out.c0
        have q1 := HAT.out.c1
        have q2 := HAT.out.c2
        have q3 := HAT.out.c3
        have cf : W4.cell? ⟨fb, 0, none⟩ = some (.slice Af f.b.length capf) := by rw [blk_cell HAT.out.file.blk]; exact congrArg some hvv
        clear hvv
        have hfl8 := HFL8
        have hcmx := HCM.out
        unfold maxLen at hcmx
        have hsm : IntKind.i64.wrap ((f.b.length : Int) + (m : Int)) = (f.b.length : Int) + (m : Int) := IntWalk.i64_in _ (by omega)
        have H3 := Lib.hid (fun nq (hx : 8388608 < f.b.length + m) => HP.out 3 (W4.drewN nq) (by unfold appendC; rw [if_neg (by simpa using HRC.out), HAT.out.isf, listD_len, if_pos hx]) S (by unfold appendS; rw [if_neg (by simpa using HRC.out), HAT.out.isf, listD_len, if_pos hx]) _ (HAT.out.drewN nq).left)
        by_cases hx : 8388608 < f.b.length + m
        · have hxi : (8388608 : Int) < (f.b.length : Int) + (m : Int) := by omega
          have HQ := Lib.hid (fun nq => H3.out nq hx)
          clear hx H3 HP
          go_wp2_with fail
          go_quiet (fail)
          go_wp2
          exact HQ.out _
        · have hxi : ¬ (8388608 : Int) < (f.b.length : Int) + (m : Int) := by omega
          have HX := Lib.hid hx
          clear hx H3
          go_wp2_with fail
          go_quiet (fail)
          go_wp2_with fail
          have HAT5 := Lib.hid (HAT.out.drewN nq)
          obtain ⟨W5, hW5⟩ : ∃ W5, W5 = W4.drewN nq := ⟨_, rfl⟩
          rw [← hW5] at HAT5 ⊢
          clear hW5 q0 q1 q2 q3 cf hsm HAT
          have z1 := HAT5.out.c1
          have z2 := HAT5.out.c2
          obtain ⟨z3, _, z4, _, _, _⟩ := HAT5.out.disk.cells
          have hsq := HSQ.out
          have hsm2 : IntKind.i64.wrap ((used S.fs : Int) + (m : Int)) = (used S.fs : Int) + (m : Int) := IntWalk.i64_in _ (by omega)
          by_cases hy : S.quota < (used S.fs : Int) + (m : Int)
          · have HQ := Lib.hid (fun nq => HP.out 41 (W5.drewN nq) (by unfold appendC; rw [if_neg (by simpa using HRC.out), HAT5.out.isf, listD_len, if_neg HX.out, if_pos hy]) S (by unfold appendS; rw [if_neg (by simpa using HRC.out), HAT5.out.isf, listD_len, if_neg HX.out, if_pos hy]) _ (HAT5.out.drewN nq).left)
            clear HP
            go_quiet (fail)
            go_wp2
            exact HQ.out _
          · have HY := Lib.hid hy
            have HSTEP := Lib.hid (fun nq => (HAT5.out.drewN nq).step HA.out.1 hmc HA.out.2.1 hbase hst hsum (refC_one HRC.out).1 (refC_one HRC.out).2 HX.out hy)
            unfold DoneR at HSTEP
            have HFQ := Lib.hid (fun (w7 : World) (ro7 : Nat → Role) (hl : Left w w7 base db ro (appS S s (listD dd m)) ro7) => HP.out (stepC S.armed) w7 (by unfold appendC; rw [if_neg (by simpa using HRC.out), HAT5.out.isf, listD_len, if_neg HX.out, if_neg HY.out]) _ (by unfold appendS; rw [if_neg (by simpa using HRC.out), HAT5.out.isf, listD_len, if_neg HX.out, if_neg HY.out]) ro7 hl)
            clear hy HP
            go_quiet (fail)
            obtain ⟨W6, hW6⟩ : ∃ W6, W6 = W5.drewN nq := ⟨_, rfl⟩
            have HS6 := Lib.hid (HSTEP.out nq)
            have y2 := (HAT5.out.drewN nq).c2
            rw [← hW6] at HS6 y2 ⊢
            clear hW6 HSTEP
            go_wp2_with fail
            refine HS6.out.mono ?_
            rintro e w7 ⟨rfl, ro7, hl7⟩
            have HQ := Lib.hid (HFQ.out w7 ro7 hl7)
            clear hl7 HFQ HS6
            go_wp2
            exact HQ.out
    | some f =>
      obtain ⟨fb, v, hrun, hat, hfa⟩ : ∃ fb v, (Instr.lookup 55 (.map (some mb)) (.string s) false).run Try.prog W2 = .ok (.pointer (some ⟨fb, 0, none⟩)) W2 ∧ D.atKey (kS s) .nil = .lit (.int .i64 ((fb : Nat) : Int)) ∧ FileAt W2 base ro s fb v f := by
        rcases HD2.out.look s HS.out with ⟨h, _⟩ | ⟨f', fb, v, hf, hr, ha, hfa⟩
        · rw [hg] at h; cases h
        · rw [hg] at hf; cases hf; exact ⟨fb, v, hr, ha, hfa⟩
      have HKK := Lib.hid (fun (w' : World) (hb : KeepW W2 W2.heap.size w') => show (w'.cell? ⟨w.heap.size, 0, none⟩ = some (.pointer (some ⟨db, 0, none⟩)) ∧ w'.cell? ⟨w.heap.size + 1, 0, none⟩ = some (.string s) ∧ w'.cell? ⟨db, 1, none⟩ = some (.map (some mb)) ∧ (Instr.lookup 55 (.map (some mb)) (.string s) false).run Try.prog w' = .ok (.pointer (some ⟨fb, 0, none⟩)) w') ∧ KeepW W2 W2.heap.size w' from by
        refine ⟨⟨(hb.1.cell (p := ⟨w.heap.size, 0, none⟩) (block_lt_of_cell c0)).trans c0, (hb.1.cell (p := ⟨w.heap.size + 1, 0, none⟩) (block_lt_of_cell c1)).trans c1, (HLK.out w' hb).cells.2.1, ?_⟩, hb⟩
        rcases (HLK.out w' hb).look s HS.out with ⟨h, _⟩ | ⟨f', fb', v', hf, hr, ha, hfa⟩
        · rw [hg] at h; cases h
        · rw [hat] at ha
          have : (fb : Int) = (fb' : Int) := by injection ha with ha; injection ha
          obtain rfl : fb = fb' := by omega
          exact hr)
      have hk0 := KeepW.start (Nat.le_refl W2.heap.size)
      have HFA := Lib.hid hfa
      clear hrun hat hfa
      go_region_held3 (fun w' => (w'.cell? ⟨w.heap.size, 0, none⟩ = some (.pointer (some ⟨db, 0, none⟩)) ∧ w'.cell? ⟨w.heap.size + 1, 0, none⟩ = some (.string s) ∧ w'.cell? ⟨db, 1, none⟩ = some (.map (some mb)) ∧ (Instr.lookup 55 (.map (some mb)) (.string s) false).run Try.prog w' = .ok (.pointer (some ⟨fb, 0, none⟩)) w') ∧ KeepW W2 W2.heap.size w') (first | exact HKK.out _ (by assumption) | exact HKK.out _ (KeepW.drew (by assumption)) | exact HKK.out _ (KeepW.alloc (by assumption) _) | exact HKK.out _ (KeepW.alloc (KeepW.drew (by assumption)) _) | go_keep) (fail)
      all_goals
        have k0 : ((W2.alloc (.cells #[.pointer (some ⟨fb, 0, none⟩)] 62)).drew).cell? ⟨W2.heap.size, 0, none⟩ = some (.pointer (some ⟨fb, 0, none⟩)) := by
          have := heap_alloc_new W2 (.cells #[.pointer (some ⟨fb, 0, none⟩)] 62)
          show (W2.alloc _).cell? _ = _
          rw [blk_cell this]; rfl
        go_upto_region 7 with (fail)
        obtain ⟨W4, hW4⟩ : ∃ W4, W4 = (W2.alloc (.cells #[.pointer (some ⟨fb, 0, none⟩)] 62)).drew := ⟨_, rfl⟩
        rw [← hW4]
        have hb4 : Below W2.heap.size W2 W4 := hW4 ▸ ((Below.refl _ _).alloc (Nat.le_refl _) _).drew
        have hbw4 : Below w.heap.size w W4 := below_step HBW.out hb4 HBW.out.size
        have hg0 : W4.heap[W2.heap.size]? = some (.cells #[.pointer (some ⟨fb, 0, none⟩)] 62 (0, 0)) := by
          rw [hW4]; exact heap_alloc_new W2 _
        have hw2 : w.heap.size + 3 ≤ W2.heap.size := by have := HZ2.out; have := HZ1.out; omega
        have hfree : ∀ p, w.heap.size ≤ p → ro p = .none := fun p hp => free_new HD.out hp
        have hdk := HLK.out W4 ⟨hb4, hb4.size⟩
        have hfx := hdk.ok.file s f hg
        have HFL8 : f.b.length ≤ 8388608 := hfx.2.2.1
        have HATX : AppAt w W4 base db mb n D av ro ro S s fb f v W2.heap.size (w.heap.size + 1 + 1) w.heap.size (w.heap.size + 1) A m c dd := by
          refine ⟨hdk, HFA.out.ch (Ch.of_below hb4 (fun b => W2.heap.size ≤ b) (fun k _ hk => hk)) (fun b hb hM => by have := (HD2.out.old b (by rcases hb with hb | hb <;> rw [hb] <;> simp)).2; omega), by rw [hg]; rfl, by unfold getF; rw [hg]; rfl, ⟨hfx.1, hfx.2.1⟩, by rw [blk_cell hg0]; rfl, (hb4.cell (p := ⟨w.heap.size + 1 + 1, 0, none⟩) (block_lt_of_cell c2)).trans c2, (hb4.cell (p := ⟨w.heap.size, 0, none⟩) (block_lt_of_cell c0)).trans c0, (hb4.cell (p := ⟨w.heap.size + 1, 0, none⟩) (block_lt_of_cell c1)).trans c1,
            ⟨hfree _ (by omega), hfree _ (by omega), hfree _ (by omega), hfree _ (by omega)⟩, HR.out.below hbw4, fun h0 ad e _ => HA.out.2.2 h0 ad e, Left.below HD.out hbw4⟩
        clear hW4 hb4 hbw4 hg0 hw2 hfree hdk hfx k0 hg
        obtain ⟨ro4, hro4⟩ : ∃ ro4, ro4 = ro := ⟨_, rfl⟩
        clear hro4 ro4
        have HAT := Lib.hid HATX
        obtain ⟨Af, capf, hvv⟩ := own_sl HAT.out.file.row
        have HSQ := Lib.hid (show used S.fs ≤ 1000000000000 by omega)
        have q0 := HAT.out.c0
        have q1 := HAT.out.c1
        have q2 := HAT.out.c2
        have q3 := HAT.out.c3
        have cf : W4.cell? ⟨fb, 0, none⟩ = some (.slice Af f.b.length capf) := by rw [blk_cell HAT.out.file.blk]; exact congrArg some hvv
        clear hvv
        have hfl8 := HFL8
        have hcmx := HCM.out
        unfold maxLen at hcmx
        have hsm : IntKind.i64.wrap ((f.b.length : Int) + (m : Int)) = (f.b.length : Int) + (m : Int) := IntWalk.i64_in _ (by omega)
        have H3 := Lib.hid (fun nq (hx : 8388608 < f.b.length + m) => HP.out 3 (W4.drewN nq) (by unfold appendC; rw [if_neg (by simpa using HRC.out), HAT.out.isf, listD_len, if_pos hx]) S (by unfold appendS; rw [if_neg (by simpa using HRC.out), HAT.out.isf, listD_len, if_pos hx]) _ (HAT.out.drewN nq).left)
        by_cases hx : 8388608 < f.b.length + m
        · have hxi : (8388608 : Int) < (f.b.length : Int) + (m : Int) := by omega
          have HQ := Lib.hid (fun nq => H3.out nq hx)
          clear hx H3 HP
          go_wp2_with fail
          go_quiet (fail)
          go_wp2
          exact HQ.out _
        · have hxi : ¬ (8388608 : Int) < (f.b.length : Int) + (m : Int) := by omega
          have HX := Lib.hid hx
          clear hx H3
          go_wp2_with fail
          go_quiet (fail)
          go_wp2_with fail
          have HAT5 := Lib.hid (HAT.out.drewN nq)
          obtain ⟨W5, hW5⟩ : ∃ W5, W5 = W4.drewN nq := ⟨_, rfl⟩
          rw [← hW5] at HAT5 ⊢
          clear hW5 q0 q1 q2 q3 cf hsm HAT
          have z1 := HAT5.out.c1
          have z2 := HAT5.out.c2
          obtain ⟨z3, _, z4, _, _, _⟩ := HAT5.out.disk.cells
          have hsq := HSQ.out
          have hsm2 : IntKind.i64.wrap ((used S.fs : Int) + (m : Int)) = (used S.fs : Int) + (m : Int) := IntWalk.i64_in _ (by omega)
          by_cases hy : S.quota < (used S.fs : Int) + (m : Int)
          · have HQ := Lib.hid (fun nq => HP.out 41 (W5.drewN nq) (by unfold appendC; rw [if_neg (by simpa using HRC.out), HAT5.out.isf, listD_len, if_neg HX.out, if_pos hy]) S (by unfold appendS; rw [if_neg (by simpa using HRC.out), HAT5.out.isf, listD_len, if_neg HX.out, if_pos hy]) _ (HAT5.out.drewN nq).left)
            clear HP
            go_quiet (fail)
            go_wp2
            exact HQ.out _
          · have HY := Lib.hid hy
            have HSTEP := Lib.hid (fun nq => (HAT5.out.drewN nq).step HA.out.1 hmc HA.out.2.1 hbase hst hsum (refC_one HRC.out).1 (refC_one HRC.out).2 HX.out hy)
            unfold DoneR at HSTEP
            have HFQ := Lib.hid (fun (w7 : World) (ro7 : Nat → Role) (hl : Left w w7 base db ro (appS S s (listD dd m)) ro7) => HP.out (stepC S.armed) w7 (by unfold appendC; rw [if_neg (by simpa using HRC.out), HAT5.out.isf, listD_len, if_neg HX.out, if_neg HY.out]) _ (by unfold appendS; rw [if_neg (by simpa using HRC.out), HAT5.out.isf, listD_len, if_neg HX.out, if_neg HY.out]) ro7 hl)
            clear hy HP
            go_quiet (fail)
            obtain ⟨W6, hW6⟩ : ∃ W6, W6 = W5.drewN nq := ⟨_, rfl⟩
            have HS6 := Lib.hid (HSTEP.out nq)
            have y2 := (HAT5.out.drewN nq).c2
            rw [← hW6] at HS6 y2 ⊢
            clear hW6 HSTEP
            go_wp2_with fail
            refine HS6.out.mono ?_
            rintro e w7 ⟨rfl, ro7, hl7⟩
            have HQ := Lib.hid (HFQ.out w7 ro7 hl7)
            clear hl7 HFQ HS6
            go_wp2
            exact HQ.out
  · have HQ := Lib.hid (HP.out (refC S [s]) (W1.alloc (.cells #[.string s] 9)) (by unfold appendC; rw [if_pos hc]) S (by unfold appendS; rw [if_pos hc]) ro (Left.below HD.out (HB1.out.alloc (by have := HZ1.out; omega) _)))
    obtain ⟨cc, hcc⟩ : ∃ cc, cc = refC S [s] := ⟨_, rfl⟩
    rw [← hcc] at HRF HQ hc
    have hc1 : (cc == 0) = false := by simpa using hc
    have hc2 : (cc != 0) = true := by simpa using hc
    clear hvals hcc HP
    go_wp2_with fail
    refine HRF.out.mono ?_
    rintro e w' ⟨rfl, hw⟩
    obtain rfl := hw.symm
    go_wp2
    exact HQ.out
end Go.Proofs.Ytfgbaigpmhnoaaa
