/- disk: On. -/
import Derived.Test.YtfgbaigpmhnoaaaDmM
set_option linter.unusedVariables false
set_option linter.unusedSimpArgs false
namespace Go.Proofs.Ytfgbaigpmhnoaaa
open Go.RowKit Go.BigFrame Go.Maps
open Dsk (Fl St Ok get put drop used)

/-- All files when the power comes on. -/
def recAll (ks : List Int) : Nat → Dsk.FS → Dsk.FS
  | _, [] => []
  | i, (s, f) :: r => if (recF f (ks.getD i 0)).sure = 0 ∧ f.ever = false then recAll ks (i + 1) r else (s, recF f (ks.getD i 0)) :: recAll ks (i + 1) r
theorem recAll_snoc (ks : List Int) : ∀ (i : Nat) (P : Dsk.FS) (s : ByteArray) (f : Fl), recAll ks i (P ++ [(s, f)]) = recAll ks i P ++ (if (recF f (ks.getD (i + P.length) 0)).sure = 0 ∧ f.ever = false then [] else [(s, recF f (ks.getD (i + P.length) 0))])
  | i, [], s, f => by simp [recAll]
  | i, (t, g) :: P, s, f => by
    have ih := recAll_snoc ks (i + 1) P s f
    simp only [List.cons_append, recAll, ih, List.length_cons, show i + (P.length + 1) = i + 1 + P.length by omega]
    split <;> simp
theorem recAll_mem (ks : List Int) : ∀ (i : Nat) (P : Dsk.FS) (p : ByteArray × Fl), p ∈ recAll ks i P → ∃ g, (p.1, g) ∈ P
  | i, [], p, h => by simp [recAll] at h
  | i, (t, g) :: P, p, h => by
    unfold recAll at h
    split at h
    · obtain ⟨g', h'⟩ := recAll_mem ks (i + 1) P p h
      exact ⟨g', by simp [h']⟩
    · simp only [List.mem_cons] at h
      rcases h with rfl | h
      · exact ⟨g, by simp⟩
      · obtain ⟨g', h'⟩ := recAll_mem ks (i + 1) P p h
        exact ⟨g', by simp [h']⟩
theorem get_mid : ∀ (P R : Dsk.FS) (s : ByteArray) (f : Fl), (∀ p ∈ P, Dsk.ltB p.1 s = true) → get (P ++ (s, f) :: R) s = some f
  | [], R, s, f, _ => by simp [Dsk.get]
  | (t, g) :: P, R, s, f, h => by
    have h1 := h (t, g) (by simp)
    show (if t = s then some g else get (P ++ (s, f) :: R) s) = some f
    rw [if_neg (Dsk.ltB_ne h1)]
    exact get_mid P R s f fun p hp => h p (by simp [hp])
theorem put_mid : ∀ (P R : Dsk.FS) (s : ByteArray) (f f' : Fl), (∀ p ∈ P, Dsk.ltB p.1 s = true) → put (P ++ (s, f) :: R) s f' = P ++ (s, f') :: R
  | [], R, s, f, f', _ => by simp [Dsk.put]
  | (t, g) :: P, R, s, f, f', h => by
    have h1 := h (t, g) (by simp)
    show (if t = s then (s, f') :: (P ++ (s, f) :: R) else if Dsk.ltB s t then (s, f') :: (t, g) :: (P ++ (s, f) :: R) else (t, g) :: put (P ++ (s, f) :: R) s f') = _
    rw [if_neg (Dsk.ltB_ne h1), if_neg (by rw [Dsk.ltB_asymm h1]; simp), put_mid P R s f f' fun p hp => h p (by simp [hp])]
    rfl
theorem drop_mid : ∀ (P R : Dsk.FS) (s : ByteArray) (f : Fl), (∀ p ∈ P, Dsk.ltB p.1 s = true) → drop (P ++ (s, f) :: R) s = P ++ R
  | [], R, s, f, _ => by simp [Dsk.drop]
  | (t, g) :: P, R, s, f, h => by
    have h1 := h (t, g) (by simp)
    show (if t = s then P ++ (s, f) :: R else (t, g) :: drop (P ++ (s, f) :: R) s) = _
    rw [if_neg (Dsk.ltB_ne h1), drop_mid P R s f fun p hp => h p (by simp [hp])]
    rfl
/-- Where the loop is. -/
def recTo (ks : List Int) (fs : Dsk.FS) (i : Nat) : Dsk.FS := recAll ks 0 (fs.take i) ++ fs.drop i
theorem recTo_zero (ks : List Int) (fs : Dsk.FS) : recTo ks fs 0 = fs := by simp [recTo, recAll]
theorem recTo_end (ks : List Int) (fs : Dsk.FS) : recTo ks fs fs.length = recAll ks 0 fs := by simp [recTo]
theorem recTo_step (ks : List Int) {fs : Dsk.FS} (hs : Dsk.Sorted fs) (i : Nat) (hi : i < fs.length) : get (recTo ks fs i) fs[i].1 = some fs[i].2 ∧ recFs (recTo ks fs i) fs[i].1 fs[i].2 (ks.getD i 0) = recTo ks fs (i + 1) := by
  have hd : fs.drop i = fs[i] :: fs.drop (i + 1) := by rw [List.drop_eq_getElem_cons hi]
  have hlow : ∀ p ∈ recAll ks 0 (fs.take i), Dsk.ltB p.1 fs[i].1 = true := fun p hp => by
    obtain ⟨g, hg⟩ := recAll_mem ks 0 _ p hp
    obtain ⟨j, hj, e⟩ := List.mem_iff_getElem.1 hg
    rw [List.length_take] at hj
    rw [List.getElem_take] at e
    have := List.pairwise_iff_getElem.1 hs j i (by omega) hi (by omega)
    rw [e] at this
    exact this
  have e : recTo ks fs i = recAll ks 0 (fs.take i) ++ (fs[i].1, fs[i].2) :: fs.drop (i + 1) := by unfold recTo; rw [hd]
  have e2 : recTo ks fs (i + 1) = recAll ks 0 (fs.take i) ++ (if (recF fs[i].2 (ks.getD i 0)).sure = 0 ∧ fs[i].2.ever = false then [] else [(fs[i].1, recF fs[i].2 (ks.getD i 0))]) ++ fs.drop (i + 1) := by
    unfold recTo
    have ht : fs.take (i + 1) = fs.take i ++ [(fs[i].1, fs[i].2)] := by rw [List.take_succ_eq_append_getElem hi]
    rw [ht, recAll_snoc, List.length_take, Nat.min_eq_left (by omega), Nat.zero_add]
  refine ⟨by rw [e]; exact get_mid _ _ _ _ hlow, ?_⟩
  rw [e2]
  unfold recFs
  split
  · rw [e, drop_mid _ _ _ _ hlow]; simp
  · rw [e, put_mid _ _ _ _ _ hlow]; simp
def onS (S : St) (ks : List Int) : St := if S.off then { S with fs := recAll ks 0 S.fs, armed := none, off := false } else { S with armed := none }
def KeepAt (w : World) (ro : Nat → Role) (A : Option Addr) (ks : List Int) : Prop := ∀ i, i < ks.length → ∃ ad, A = some ad ∧ ro ad.block = .none ∧ w.cell? (ad.add i) = some (.int .i64 (ks.getD i 0))
theorem KeepAt.ch {w w' : World} {ro : Nat → Role} {A : Option Addr} {ks : List Int} {M : Nat → Prop} (h : KeepAt w ro A ks) (hc : Ch w w' M) (hm : ∀ b, ro b = .none → b < w.heap.size → ¬ M b) : KeepAt w' ro A ks := fun i hi => by
  obtain ⟨ad, e, h1, h2⟩ := h i hi
  have hb : (ad.add i).block = ad.block := by unfold Addr.add; split <;> rfl
  exact ⟨ad, e, h1, hc.cell h2 (by rw [hb]; exact hm _ h1 (by have := World.block_lt_of_cell? w _ h2; rw [hb] at this; exact this))⟩
end Go.Proofs.Ytfgbaigpmhnoaaa

/- disk: On, walked. -/
namespace Go.Proofs.Ytfgbaigpmhnoaaa
open Go.RowKit Go.BigFrame Go.Maps
open Dsk (Fl St Ok get put drop used)

theorem names_at (fs : Dsk.FS) (i : Nat) (h : i < fs.length) : (encL (Dsk.names fs))[i]? = some (.string fs[i].1) := by
  unfold encL Dsk.names
  rw [List.getElem?_map, List.getElem?_map, List.getElem?_eq_getElem h]
  show some (encStr fs[i].1.data.toList) = _
  rw [encStr_bytes]
/-- The state when the files are being looked through. -/
def onI (S : St) (ks : List Int) (i : Nat) : St := { S with armed := none, fs := recTo ks S.fs i }
theorem onI_step {S : St} {ks : List Int} {i : Nat} {s : ByteArray} {f : Fl} {k : Int} (h : recFs (recTo ks S.fs i) s f k = recTo ks S.fs (i + 1)) : ({ onI S ks i with fs := recFs (onI S ks i).fs s f k } : St) = onI S ks (i + 1) := by
  unfold onI
  dsimp only
  rw [h]
set_option maxRecDepth 100000 in
set_option maxHeartbeats 4000000 in
theorem on_any (w : World) (base db : Nat) (ro : Nat → Role) (S : St) (A : Option Addr) (cap : Nat) (ks : List Int) (h : DiskAt w base db ro S) (hk : KeepAt w ro A ks) (hkl : ks.length ≤ 1000000000) :
    Calls Try.prog 20 #[.pointer (some ⟨db, 0, none⟩), .slice A ks.length cap] w (DoneR w base db ro (onS S ks) (.tuple #[])) := by
  obtain ⟨mb, n, D, av, hd⟩ := h
  have f4 := hd.free 4
  obtain ⟨_, _, _, _, c4, c5⟩ := hd.cells
  have hb4 : (w.setCell ⟨db, 4, none⟩ (.pointer none)).heap[db]? = some (.cells (diskCells mb (.pointer none) { S with armed := none }) 58 (0, 0)) := by rw [blk_set hd.blk 4 (.pointer none)]; rfl
  have hc4 : Ch w (w.setCell ⟨db, 4, none⟩ (.pointer none)) (fun b => b = db) := (Ch.refl w (fun b => b = db)).setCell (p := ⟨db, 4, none⟩) rfl _
  have hl4 : Left w (w.setCell ⟨db, 4, none⟩ (.pointer none)) base db ro { S with armed := none } ro := Left.flip hd hc4 (av' := .pointer none) hb4 rfl (Nat.le_refl _) (.inl ⟨rfl, rfl⟩) (ok_with hd.ok none S.off (fun k e => by cases e))
  have c5' : (w.setCell ⟨db, 4, none⟩ (.pointer none)).cell? ⟨db, 5, none⟩ = some (.bool S.off) := by rw [blk_cell hb4]; rfl
  have hlen := Nat.le_trans hd.ok.few hd.ok.low
  have hsrt := hd.ok.sorted
  cases hoff : S.off with
  | false =>
    have HQ := Lib.hid (show DoneR w base db ro (onS S ks) (.tuple #[]) (.returned (.tuple #[])) (w.setCell ⟨db, 4, none⟩ (.pointer none)) from ⟨rfl, ro, by unfold onS; rw [if_neg (by rw [hoff]; simp)]; exact hl4⟩)
    generalize DoneR w base db ro (onS S ks) (.tuple #[]) = post at *
    rw [hoff] at c5 c5'
    clear hd hl4 hc4 hb4 hk
    go_enter Try.func20, Try.ntmps20
    go_wp2
    go_end0
    exact HQ.out
  | true =>
    rw [hoff] at c5 c5'
    have HD4 := Lib.hid hd
    obtain ⟨w1, hw1⟩ : ∃ w1, w1 = w.setCell ⟨db, 4, none⟩ (.pointer none) := ⟨_, rfl⟩
    rw [← hw1] at hl4 c5'
    have HL1 := Lib.hid hl4
    have hbs : ∀ b, ro b ≠ .none → b < w.heap.size := fun b hb => (hd.old b hb).2
    have HOLD := Lib.hid hbs
    have HN := Lib.hid (names_any w1 base db ro { S with armed := none } hl4.disk)
    have HK := Lib.hid hk
    have HP := Lib.hid (fun (w' : World) (ro' : Nat → Role) (hl : Left w w' base db ro { S with fs := recAll ks 0 S.fs, armed := none, off := false } ro') => show DoneR w base db ro (onS S ks) (.tuple #[]) (.returned (.tuple #[])) w' from ⟨rfl, ro', by unfold onS; rw [if_pos (by rw [hoff])]; exact hl⟩)
    generalize DoneR w base db ro (onS S ks) (.tuple #[]) = post at *
    have HW1 := Lib.hid hw1
    clear hd hl4 hc4 hb4 hk hbs
    go_enter Try.func20, Try.ntmps20
    go_upto_region 3 with (fail)
    rw [← hw1]
    clear hw1 c5 c4 f4
    go_wp2_with fail
    refine HN.out.mono ?_
    rintro e w2 ⟨hbel, vn, rfl, hrow⟩
    obtain ⟨N, hN⟩ : ∃ N, N = S.fs.length := ⟨_, rfl⟩
    have hrow' : w2.ownsRow w1.heap.size 9 1 vn N (encL (Dsk.names S.fs)) := by rw [hN, ← names_len S.fs]; exact hrow
    have hw1s : w1.heap.size = w.heap.size := by rw [HW1.out]; simp
    have L12 : Left w1 w2 base db ro { S with armed := none } ro := ⟨HL1.out.disk.below hbel, Sub.refl _ _, Ch.of_below hbel _ fun k hk hge => by omega⟩
    have HK2 := Lib.hid ((HK.out.ch HL1.out.ch (fun b e _ h => h e)).ch L12.ch (fun b e _ h => h e))
    have HL2 := Lib.hid (HL1.out.trans L12)
    have hl0 : Left w2 w2 base db ro (onI S ks 0) ro := ⟨by unfold onI; rw [recTo_zero]; exact L12.disk, Sub.refl _ _, Ch.refl _ _⟩
    have HLT := Lib.hid (fun (wr : World) (ro' : Nat → Role) (hl : Left w2 wr base db ro (onI S ks N) ro') (w' : World) (hw : w' = wr.setCell ⟨db, 5, none⟩ (.bool false)) => show post (.returned (.tuple #[])) w' from by
      obtain ⟨mb', n', D', av', hdi⟩ := hl.disk
      have hf : Left wr w' base db ro' { onI S ks N with off := false } ro' := by
        rw [hw]
        refine Left.flip hdi ((Ch.refl wr (fun b => b = db)).setCell (p := ⟨db, 5, none⟩) rfl _) (av' := av') (by rw [blk_set hdi.blk 5 (.bool false)]; rfl) rfl (Nat.le_refl _) ?_ (ok_with hdi.ok none false (fun k e => by cases e))
        exact hdi.arm.ch ((Ch.refl wr (fun b => b = db)).setCell (p := ⟨db, 5, none⟩) rfl _) (fun b hb e => by rw [e, hdi.rdb] at hb; cases hb)
      refine HP.out w' ro' ((HL2.out.trans hl).trans ?_)
      have e : ({ onI S ks N with off := false } : St) = { S with fs := recAll ks 0 S.fs, armed := none, off := false } := by unfold onI; rw [hN, recTo_end]
      rw [← e]; exact hf)
    obtain ⟨An, capn, rfl⟩ := own_sl hrow'
    have HROW := Lib.hid hrow'
    have HSRT := Lib.hid hsrt
    have hNl : N ≤ 1000000000 := by rw [hN]; exact hlen
    have HL0 := Lib.hid hl0
    have HLEN := Lib.hid hN
    clear hrow hrow' hbel L12 hl0 hsrt HN HK HL1 HL2 HP HW1 c5' hN hlen
    go_wp2
    go_loopw [4, 5, 6, 20] (fun _ _ _ iv wr => ∃ (i : Nat) (roi : Nat → Role), iv = .int .i64 (i : Int) ∧ i ≤ N ∧ Hid (Left w2 wr base db ro (onI S ks i) roi)) (fun _ _ _ iv _ => N - (intOf iv).toNat)
    case atStart => exact ⟨0, ro, rfl, by omega, HL0⟩
    case round =>
      obtain ⟨i, roi, rfl, hi, HL⟩ := hrel
      by_cases hlt : i < N
      · have hif : i < S.fs.length := by rw [← HLEN.out]; exact hlt
        have hrr : wr.ownsRow w1.heap.size 9 1 (.slice An N capn) N (encL (Dsk.names S.fs)) := HL.out.ch.own HROW.out fun b hb hO => by
          have h1 := (HROW.out.lt b hb).1
          have h2 := HOLD.out b hO
          omega
        obtain ⟨g, capn', he, _⟩ := own_at HROW.out (by omega)
        simp only [Value.slice.injEq, true_and] at he
        obtain ⟨rfl, rfl⟩ := he
        have hcn : wr.cell? ⟨g, i, none⟩ = some (.string S.fs[i].1) := by rw [hrr.cellAt i (by omega)]; exact names_at _ _ hif
        obtain ⟨mb', n', D', av', hdi⟩ := HL.out.disk
        obtain ⟨hst1, hst2⟩ := recTo_step ks HSRT.out i hif
        have hsz : (S.fs[i].1).size ≤ maxLen := by have := (hdi.ok.file _ _ hst1).2.2.2.2; unfold maxLen; omega
        have HR := Lib.hid (recover_any wr base db mb' n' D' av' roi (onI S ks i) S.fs[i].1 S.fs[i].2 (ks.getD i 0) hdi hst1 hsz)
        have HKr := Lib.hid (HK2.out.ch HL.out.ch (fun b e _ h => h e))
        have HST := Lib.hid (onI_step hst2)
        generalize S.fs[i].1 = nm at *
        generalize hkv : ks.getD i 0 = kv at *
        generalize hKL : ks.length = kl at *
        clear hdi hst1 hst2 hrr
        by_cases hki : i < kl
        · obtain ⟨ad, rfl, _, hck⟩ := HKr.out i (by omega)
          rw [hkv] at hck
          go_wp2_with fail
          refine HR.out.mono ?_
          rintro e w4 ⟨rfl, ro4, hl4⟩
          have HL4 := Lib.hid (show Left w2 w4 base db ro (onI S ks (i + 1)) ro4 from HL.out.trans (by rw [HST.out] at hl4; exact hl4))
          clear hl4 HR HL HST
          go_wp2
          go_roundw
          case rel => exact ⟨i + 1, ro4, by go_num, by omega, HL4⟩
          case measure => simp [intOf]; omega
        · have hk0 : kv = 0 := by rw [← hkv, List.getD_eq_getElem?_getD, List.getElem?_eq_none (by omega)]; rfl
          subst hk0
          go_wp2_with fail
          refine HR.out.mono ?_
          rintro e w4 ⟨rfl, ro4, hl4⟩
          have HL4 := Lib.hid (show Left w2 w4 base db ro (onI S ks (i + 1)) ro4 from HL.out.trans (by rw [HST.out] at hl4; exact hl4))
          clear hl4 HR HL HST
          go_wp2
          go_roundw
          case rel => exact ⟨i + 1, ro4, by go_num, by omega, HL4⟩
          case measure => simp [intOf]; omega
      · obtain rfl : i = N := by omega
        obtain ⟨mb', n', D', av', hdi⟩ := HL.out.disk
        have f5 := hdi.free 5
        obtain ⟨_, _, _, _, _, c5⟩ := hdi.cells
        have HQ := Lib.hid (HLT.out wr roi HL.out _ rfl)
        clear hdi HLT HL HL0
        go_wp2
        go_end0
        exact HQ.out
end Go.Proofs.Ytfgbaigpmhnoaaa
