/- disk: a run of calls on a disk of one's own; works. -/
import Derived.Test.YtfgbaigpmhnoaaaDmO
import Derived.Deep.SlicePairs
set_option linter.unusedVariables false
set_option linter.unusedSimpArgs false
namespace Go.Proofs.Ytfgbaigpmhnoaaa
open Go.RowKit Go.BigFrame Go.Maps
open Dsk (Fl St Ok get put drop used)

structure Ses (W0 w : World) (B db : Nat) (ro : Nat → Role) (S : St) : Prop where
  disk : DiskAt w B db ro S
  below : Below B W0 w
  size : B ≤ w.heap.size
theorem own_ge {w : World} {B db : Nat} {ro : Nat → Role} {S : St} (h : DiskAt w B db ro S) {b : Nat} (hb : Own ro b) : B ≤ b := by
  obtain ⟨mb, n, D, av, h⟩ := h
  exact (h.old b hb).1
theorem Ses.left {W0 w w' : World} {B db : Nat} {ro ro' : Nat → Role} {S S' : St} (h : Ses W0 w B db ro S) (hl : Left w w' B db ro S' ro') : Ses W0 w' B db ro' S' :=
  ⟨hl.disk, h.below.trans (hl.ch.below h.size fun _ hk => own_ge h.disk hk), Nat.le_trans h.size hl.ch.size⟩
theorem Ses.grow {W0 w w' : World} {B db : Nat} {ro : Nat → Role} {S : St} (h : Ses W0 w B db ro S) (hb : Below w.heap.size w w') : Ses W0 w' B db ro S :=
  ⟨h.disk.below hb, below_step h.below hb h.size, Nat.le_trans h.size hb.size⟩
theorem Ses.alloc {W0 w : World} {B db : Nat} {ro : Nat → Role} {S : St} (h : Ses W0 w B db ro S) (o : Obj) : Ses W0 (w.alloc o) B db ro S := h.grow ((Below.refl _ _).alloc (Nat.le_refl _) _)
def SesR (W0 : World) (B db : Nat) (S : St) (r : Value) (e : Ending) (w' : World) : Prop := e = .returned r ∧ ∃ ro, Ses W0 w' B db ro S
theorem Ses.done {W0 w : World} {B db : Nat} {ro : Nat → Role} {S S' : St} {r : Value} (h : Ses W0 w B db ro S) {f : FuncId} {args : Array Value} (hc : Calls Try.prog f args w (DoneR w B db ro S' r)) : Calls Try.prog f args w (SesR W0 B db S' r) :=
  hc.mono fun _ _ ⟨he, ro', hl⟩ => ⟨he, ro', h.left hl⟩
theorem ses_new (w : World) (q : Int) (h1 : -9223372036854775808 ≤ q) (h2 : q ≤ 9223372036854775807) : Calls Try.prog 9 #[.int .i64 q] w fun e w' => ∃ db ro, e = .returned (.pointer (some ⟨db, 0, none⟩)) ∧ Ses w w' w.heap.size db ro ⟨if q ≤ 0 then 0 else q, [], 0, none, false⟩ :=
  (new_any q w h1 h2).mono fun _ _ ⟨db, ro, he, hd, hb⟩ => ⟨db, ro, he, hd, hb, hb.size⟩
/-- A literal row of bytes. -/
theorem lit_holds (w : World) (l : List Nat) (vs : Array Value) (hv : vs = (bvs l).toArray) : Holds (w.alloc (.cells vs 5)) (w.alloc (.cells vs 5)).heap.size (some ⟨w.heap.size, 0, none⟩) l.length (fun i => l.getD i 0) := fun _ => by
  refine ⟨_, rfl, by simp, fun j hj => ?_⟩
  subst hv
  have hh : (w.alloc (.cells (bvs l).toArray 5 (0, 0))).heap[w.heap.size]? = some (.cells (bvs l).toArray 5 (0, 0)) := heap_alloc_new w _
  have e : (⟨w.heap.size, 0, none⟩ : Addr).add j = ⟨w.heap.size, j, none⟩ := by unfold Addr.add; by_cases h0 : j = 0 <;> simp [h0]
  rw [e, blk_cell hh]
  simp [bvs, hj, List.getD]
theorem listD_get (l : List Nat) : listD (fun i => l.getD i 0) l.length = l := by
  apply List.ext_getElem?
  intro j
  by_cases hj : j < l.length
  · simp [listD, hj, List.getD]
  · simp [listD, hj]
theorem ses_append {W0 w : World} {B db : Nat} {ro : Nat → Role} {S : St} (h : Ses W0 w B db ro S) (s : ByteArray) (A : Option Addr) (c : Nat) (l : List Nat) (hs : s.size ≤ maxLen) (hr : Holds w w.heap.size A l.length (fun i => l.getD i 0)) (hA : A = none → c = 0) (hmc : l.length ≤ c) (hcm : c ≤ maxLen) (hd : ∀ x ∈ l, x < 256)
    (hst : S.steps < 1000000000) (hsum : used S.fs + l.length ≤ 1000000000000) (hbo : 0 < l.length → ∀ ad, A = some ad → ro ad.block = .none) :
    Calls Try.prog 17 #[.pointer (some ⟨db, 0, none⟩), .string s, .slice A l.length c] w (SesR W0 B db (appendS S s l) (.int .i64 (appendC S s l))) := by
  have := h.done (append_any w B db ro S s A l.length c (fun i => l.getD i 0) h.disk hs hr hA hmc hcm (fun i => by
    by_cases hi : i < l.length
    · rw [List.getD_eq_getElem?_getD, List.getElem?_eq_getElem hi]; exact hd _ (List.getElem_mem _)
    · rw [List.getD_eq_getElem?_getD, List.getElem?_eq_none (by omega)]; decide) h.size hst hsum hbo)
  rw [listD_get] at this
  exact this
theorem ses_sync {W0 w : World} {B db : Nat} {ro : Nat → Role} {S : St} (h : Ses W0 w B db ro S) (s : ByteArray) (hs : s.size ≤ maxLen) (hst : S.steps < 1000000000) : Calls Try.prog 18 #[.pointer (some ⟨db, 0, none⟩), .string s] w (SesR W0 B db (syncS S s) (.int .i64 (syncC S s))) :=
  h.done (sync_any w B db ro S s h.disk hs hst)
theorem ses_crash {W0 w : World} {B db : Nat} {ro : Nat → Role} {S : St} (h : Ses W0 w B db ro S) : Calls Try.prog 19 #[.pointer (some ⟨db, 0, none⟩)] w (SesR W0 B db { S with off := true, armed := none } (.tuple #[])) :=
  h.done (crash_any w B db ro S h.disk)
theorem ses_fail {W0 w : World} {B db : Nat} {ro : Nat → Role} {S : St} (h : Ses W0 w B db ro S) (n : Int) (h1 : -9223372036854775808 ≤ n) (h2 : n ≤ 9223372036854775807) : Calls Try.prog 15 #[.pointer (some ⟨db, 0, none⟩), .int .i64 n] w (SesR W0 B db { S with armed := armOf n } (.tuple #[])) :=
  h.done (fail_any w B db ro S n h.disk h1 h2 h.size)
theorem keep_lit (w : World) (ro : Nat → Role) (ks : List Int) (vs : Array Value) (hv : vs = (ks.map (fun x => Value.int .i64 x)).toArray) (hf : ro w.heap.size = .none) : KeepAt (w.alloc (.cells vs 3)) ro (some ⟨w.heap.size, 0, none⟩) ks := fun j hj => by
  refine ⟨_, rfl, hf, ?_⟩
  subst hv
  have hh : (w.alloc (.cells (ks.map (fun x => Value.int .i64 x)).toArray 3 (0, 0))).heap[w.heap.size]? = some (.cells (ks.map (fun x => Value.int .i64 x)).toArray 3 (0, 0)) := heap_alloc_new w _
  have e : (⟨w.heap.size, 0, none⟩ : Addr).add j = ⟨w.heap.size, j, none⟩ := by unfold Addr.add; by_cases h0 : j = 0 <;> simp [h0]
  rw [e, blk_cell hh]
  simp [hj, List.getD]
theorem ses_on {W0 w : World} {B db : Nat} {ro : Nat → Role} {S : St} (h : Ses W0 w B db ro S) (A : Option Addr) (cap : Nat) (ks : List Int) (hk : KeepAt w ro A ks) (hkl : ks.length ≤ 1000000000) : Calls Try.prog 20 #[.pointer (some ⟨db, 0, none⟩), .slice A ks.length cap] w (SesR W0 B db (onS S ks) (.tuple #[])) :=
  h.done (on_any w B db ro S A cap ks h.disk hk hkl)
def nA : ByteArray := ⟨#[97]⟩
def exS0 : St := ⟨100, [], 0, none, false⟩
def exS1 : St := appendS exS0 nA [1, 2]
def exS2 : St := syncS exS1 nA
def exS3 : St := appendS exS2 nA [3, 4]
def exS4 : St := { exS3 with off := true, armed := none }
def exS5 : St := onS exS4 [1]
theorem ex_steps : exS0.steps = 0 ∧ exS1.steps = 1 ∧ exS2.steps = 2 ∧ used exS0.fs = 0 ∧ used exS1.fs = 2 ∧ used exS2.fs = 2 := ⟨by kernel_rfl, by kernel_rfl, by kernel_rfl, by kernel_rfl, by kernel_rfl, by kernel_rfl⟩
theorem ex_read : readC exS5 nA = 0 ∧ readB exS5 nA = [1, 2, 3] ∧ used exS5.fs = 3 := ⟨by kernel_rfl, by kernel_rfl, by kernel_rfl⟩
end Go.Proofs.Ytfgbaigpmhnoaaa

/- disk: works. -/
namespace Go.Proofs.Ytfgbaigpmhnoaaa
open Go.RowKit Go.BigFrame Go.Maps
open Dsk (Fl St Ok get put drop used)

def YesPost (w : World) (e : Ending) (w' : World) : Prop := e = .returned (.bool true) ∧ Below w.heap.size w w'
/-- A row of bytes that the call itself owns, as a text. -/
theorem text_own {w : World} {base n : Nat} {v : Value} {l : List Nat} (h : w.ownsRow base 5 1 v n (bvs l)) (hn : l.length = n) : ∃ A cap, v = .slice A n cap ∧ Holds w w.heap.size A n (fun i => l.getD i 0) := by
  obtain ⟨A, cap, rfl⟩ := own_sl h
  exact ⟨A, cap, rfl, holds_own h hn⟩
theorem bvs_bytes (l : List Nat) (h : ∀ x ∈ l, x < 256) : bvs l = (l.map UInt8.ofNat).map fun c => Value.int .u8 (c.toNat : Int) := by
  unfold bvs
  rw [List.map_map]
  refine List.map_congr_left fun x hx => ?_
  have := h x hx
  show _ = Value.int .u8 ((UInt8.ofNat x).toNat : Int)
  rw [UInt8.toNat_ofNat_of_lt' (by simpa using this)]
theorem conv_row {w : World} {base n : Nat} {v : Value} {l : List Nat} (h : w.ownsRow base 5 1 v n (bvs l)) (hn : l.length = n) (hl : ∀ x ∈ l, x < 256) : (convert 29 9 v).run Try.prog w = .ok (.string (strOf (l.map UInt8.ofNat))) w := by
  rw [bvs_bytes l hl, ← hn] at h
  exact convert_own (l := l.map UInt8.ofNat) (by rw [List.length_map]; exact h) Try.underlying29 Try.underlying5 Try.underlying9
set_option maxRecDepth 100000 in
set_option maxHeartbeats 4000000 in
theorem works_any (w : World) : Calls Try.prog 8 #[] w (YesPost w) := by
  have HP := Lib.hid (fun (w' : World) (hb : Below w.heap.size w w') => show YesPost w (.returned (.bool true)) w' from ⟨rfl, hb⟩)
  generalize YesPost w = post at *
  obtain ⟨e1, e2, e3, e4, e5, e6⟩ := ex_steps
  have HE := Lib.hid (And.intro e1 (And.intro e2 (And.intro e3 (And.intro e4 (And.intro e5 e6)))))
  have HN := Lib.hid (ses_new w 100 (by omega) (by omega))
  clear e1 e2 e3 e4 e5 e6
  go_enter Try.func8, Try.ntmps8
  go_wp2_with fail
  refine HN.out.mono ?_
  rintro e w1 ⟨db, ro, rfl, hs⟩
  have hs1 : Ses w w1 w.heap.size db ro exS0 := hs
  have HS1 := Lib.hid hs1
  have HA1 := Lib.hid (ses_append (hs1.alloc (.cells #[.int .u8 1, .int .u8 2] 5)) nA _ 2 [1, 2] (by decide) (lit_holds w1 [1, 2] #[.int .u8 1, .int .u8 2] rfl) (fun e => by cases e) (by simp) (by decide) (by decide) (by rw [HE.out.1]; decide) (by rw [HE.out.2.2.2.1]; decide) (fun _ ad e => by cases e; exact free_new hs1.disk (Nat.le_refl _)))
  clear hs hs1 HN
  go_wp2_with fail
  refine HA1.out.mono ?_
  rintro e w2 ⟨rfl, ro2, hs2⟩
  have HA2 := Lib.hid (ses_sync (S := exS1) hs2 nA (by decide) (by rw [HE.out.2.1]; decide))
  clear hs2 HA1 HS1
  go_wp2_with fail
  refine HA2.out.mono ?_
  rintro e w3 ⟨rfl, ro3, hs3⟩
  have hs3' : Ses w w3 w.heap.size db ro3 exS2 := hs3
  have HA3 := Lib.hid (ses_append (hs3'.alloc (.cells #[.int .u8 3, .int .u8 4] 5)) nA _ 2 [3, 4] (by decide) (lit_holds w3 [3, 4] #[.int .u8 3, .int .u8 4] rfl) (fun e => by cases e) (by simp) (by decide) (by decide) (by rw [HE.out.2.2.1]; decide) (by rw [HE.out.2.2.2.2.2]; decide) (fun _ ad e => by cases e; exact free_new hs3'.disk (Nat.le_refl _)))
  clear hs3 hs3' HA2
  go_wp2_with fail
  refine HA3.out.mono ?_
  rintro e w4 ⟨rfl, ro4, hs4⟩
  have HA4 := Lib.hid (ses_crash (S := exS3) hs4)
  clear hs4 HA3
  go_wp2_with fail
  refine HA4.out.mono ?_
  rintro e w5 ⟨rfl, ro5, hs5⟩
  have hs5' : Ses w w5 w.heap.size db ro5 exS4 := hs5
  have HA5 := Lib.hid (ses_on (hs5'.alloc (.cells #[.int .i64 1] 3)) _ 1 [1] (keep_lit w5 ro5 [1] #[.int .i64 1] rfl (free_new hs5'.disk (Nat.le_refl _))) (by decide))
  clear hs5 hs5' HA4
  go_wp2_with fail
  refine HA5.out.mono ?_
  rintro e w6 ⟨rfl, ro6, hs6⟩
  have hs6' : Ses w w6 w.heap.size db ro6 exS5 := hs6
  have HA6 := Lib.hid (read_any w6 w.heap.size db ro6 exS5 nA hs6'.disk (by decide))
  have HS6 := Lib.hid hs6'
  clear hs6 hs6' HA5
  go_wp2_with fail
  refine HA6.out.mono ?_
  rintro e w7 ⟨hb7, v7, rfl, hrow⟩
  rw [ex_read.1]
  rw [ex_read.2.1] at hrow
  have hrow3 : w7.ownsRow w6.heap.size 5 1 v7 3 (bvs [1, 2, 3]) := hrow
  clear hrow
  have hcv := conv_row hrow3 rfl (by decide)
  have hcv' : (convert 29 9 v7).run Try.prog w7 = .ok (.string ⟨#[1, 2, 3]⟩) w7 := hcv
  obtain ⟨A7, cap7, rfl, hh7⟩ := text_own hrow3 rfl
  have hs7 := HS6.out.grow hb7
  have HS7 := Lib.hid hs7
  have HB := Lib.hid (HP.out _ hs7.below)
  have hu := used_any w7 w.heap.size db ro6 exS5 hs7.disk
  rw [ex_read.2.2] at hu
  have HU := Lib.hid hu
  clear hs7 hu hrow3 hh7 hb7 hcv HS6 HS7 HA6 HP
  go_wp2_with fail
  refine HU.out.mono ?_
  rintro e w8 ⟨rfl, rfl⟩
  go_wp2
  exact HB.out
end Go.Proofs.Ytfgbaigpmhnoaaa

/- disk: what comes in; what DiskKeeps asks (maths). -/
namespace Go.Proofs.Ytfgbaigpmhnoaaa
open Go.ChangeShapes Go.WideShapes Go.ChangeAt Go.RowKit Go.BigFrame Go.Maps
open Dsk (Fl St Ok get put drop used)

def RB (w : World) (B : Nat) (v : Value) (l : List Nat) : Prop :=
  ∃ A cap, v = .slice A l.length cap ∧ l.length ≤ cap ∧ cap ≤ maxLen ∧ (A = none → cap = 0) ∧ Holds w B A l.length (fun i => l.getD i 0) ∧ ∀ x ∈ l, x < 256
theorem RB.below {w w' : World} {B : Nat} {v : Value} {l : List Nat} (h : RB w B v l) (hb : Below B w w') : RB w' B v l := by
  obtain ⟨A, cap, e, h1, h2, h3, h4, h5⟩ := h
  exact ⟨A, cap, e, h1, h2, h3, h4.below hb, h5⟩
def RRB (w : World) (B : Nat) (v : Value) (rs : List (List Nat)) : Prop :=
  ∃ A cap, v = .slice A rs.length cap ∧ rs.length ≤ cap ∧ cap ≤ maxLen ∧ ∀ i, i < rs.length → ∃ ad u, A = some ad ∧ ad.block < B ∧ w.cell? (ad.add i) = some u ∧ RB w B u (rs.getD i [])
theorem RRB.below {w w' : World} {B : Nat} {v : Value} {rs : List (List Nat)} (h : RRB w B v rs) (hb : Below B w w') : RRB w' B v rs := by
  obtain ⟨A, cap, e, h1, h2, h3⟩ := h
  refine ⟨A, cap, e, h1, h2, fun i hi => ?_⟩
  obtain ⟨ad, u, e1, e2, e3, e4⟩ := h3 i hi
  exact ⟨ad, u, e1, e2, (hb.cell (by rw [add_block]; exact e2)).trans e3, e4.below hb⟩
def RBo (w : World) (B : Nat) (v : Value) (bs : List Bool) : Prop :=
  ∃ A cap, v = .slice A bs.length cap ∧ bs.length ≤ cap ∧ cap ≤ maxLen ∧ ∀ i, i < bs.length → ∃ ad, A = some ad ∧ ad.block < B ∧ w.cell? (ad.add i) = some (.bool (bs.getD i false))
theorem RBo.below {w w' : World} {B : Nat} {v : Value} {bs : List Bool} (h : RBo w B v bs) (hb : Below B w w') : RBo w' B v bs := by
  obtain ⟨A, cap, e, h1, h2, h3⟩ := h
  refine ⟨A, cap, e, h1, h2, fun i hi => ?_⟩
  obtain ⟨ad, e1, e2, e3⟩ := h3 i hi
  exact ⟨ad, e1, e2, (hb.cell (by rw [add_block]; exact e2)).trans e3⟩
theorem cellsU8 : Try.prog.cellsOf 5 = 1 := by kernel_rfl
theorem cellsBool : Try.prog.cellsOf 4 = 1 := by kernel_rfl
theorem cellsBytes : Try.prog.cellsOf 29 = 1 := by kernel_rfl
theorem trod_bytes1 {H : Type} {enc : TypeId × Value → H} {w : World} {base : Nat} {sp : Nat → Bool} {held : Bool} {fuel : Nat} {v : Value} {x : DataW H × List MemPlace}
    (hf : DataW.trod enc Try.prog w base sp held fuel 29 [v] = some x) : ∃ l : List Nat, RB w w.heap.size v l := by
  rcases Go.Deep.open_slice1 Try.underlying29 cellsU8 hf with ⟨hcs, _⟩ | ⟨a, n, cap, m, k, V, D, Pl, hcs, _, hl, hm, hmm, _, hel⟩
  · have hv : v = .slice none 0 0 := by simpa using hcs
    subst hv
    exact ⟨[], none, 0, rfl, Nat.le_refl _, by decide, fun _ => rfl, (fun h => absurd h (by simp)), fun x h => by simp at h⟩
  · have hv : v = .slice (some a) n cap := by simpa using hcs
    subst hv
    have hnm : n ≤ m := by rw [hmm]; split <;> omega
    have hc : ∀ i, i < n → ∃ b : Nat, b < 256 ∧ w.cell? (a.add i) = some (.int .u8 (b : Int)) := by
      intro i hi
      obtain ⟨h2, h3⟩ := hel i (by omega)
      obtain ⟨b, eb, _, wb⟩ := DataW.trod_int Try.underlying5 h3
      have hb := bounds_u8 wb
      refine ⟨b.toNat, by omega, ?_⟩
      simp at eb
      rw [h2, eb]
      congr 2
      omega
    obtain ⟨f, hfz⟩ : ∃ f : Nat → Nat, ∀ i, i < n → f i < 256 ∧ w.cell? (a.add i) = some (.int .u8 (f i : Int)) := ⟨fun i => if h : i < n then Classical.choose (hc i h) else 0, fun i hi => by
      have := Classical.choose_spec (hc i hi)
      simp only [hi, dif_pos]
      exact this⟩
    have hlen : ((List.range n).map f).length = n := by simp
    refine ⟨(List.range n).map f, some a, cap, by rw [hlen], by rw [hlen]; exact hl, hm, (fun h => by cases h), fun hn => ⟨a, rfl, ?_, fun j hj => ?_⟩, fun x hx => ?_⟩
    · rw [hlen] at hn
      have := block_lt_of_cell (hfz 0 hn).2
      rwa [add_block] at this
    · rw [hlen] at hj
      rw [(hfz j hj).2]
      simp [hj, List.getD]
    · simp at hx
      obtain ⟨i, hi, rfl⟩ := hx
      exact (hfz i hi).1
set_option maxRecDepth 100000 in
theorem open_rows {H : Type} {enc : TypeId × Value → H} {w : World} {base : Nat} {sp : Nat → Bool} {held : Bool} {r : Reach} {b0 : Nat} {v : Value} {y : DataW H} {ps : List MemPlace} (_lt : ∀ x ∈ ps, x.block < w.heap.size)
    (hval : Value.okWide Try.prog w r b0 38 v) (hd : DataW.Trod enc Try.prog w base sp held 38 v y ps) :
    ∃ (a : Value) (rs : List (List Nat)), RRB w w.heap.size a rs ∧ a = v := by
  obtain ⟨A, n, cap, rfl⟩ := okWide_slice Try.underlying38 hval
  obtain ⟨fuel, hf⟩ := hd
  refine ⟨.slice A n cap, ?_⟩
  rcases Go.Deep.open_slice1 Try.underlying38 cellsBytes hf with ⟨hcs, _⟩ | ⟨a, len, cap', m, k, V, D, Pl, hcs, _, hl, hm, hmm, _, hel⟩
  · simp [Value.cells] at hcs
    obtain ⟨rfl, rfl, rfl⟩ := hcs
    exact ⟨[], ⟨none, 0, rfl, Nat.le_refl _, by decide, fun i h => absurd h (by simp)⟩, rfl⟩
  · simp [Value.cells] at hcs
    obtain ⟨rfl, rfl, rfl⟩ := hcs
    have hnm : n ≤ m := by rw [hmm]; split <;> omega
    have hc : ∀ i, i < n → ∃ row : List Nat, w.cell? (a.add i) = some (V i) ∧ RB w w.heap.size (V i) row := by
      intro i hi
      obtain ⟨h2, h3⟩ := hel i (by omega)
      obtain ⟨row, hrow⟩ := trod_bytes1 h3
      exact ⟨row, h2, hrow⟩
    obtain ⟨f, hfz⟩ : ∃ f : Nat → List Nat, ∀ i, i < n → w.cell? (a.add i) = some (V i) ∧ RB w w.heap.size (V i) (f i) := ⟨fun i => if h : i < n then Classical.choose (hc i h) else [], fun i hi => by
      have := Classical.choose_spec (hc i hi)
      simp only [hi, dif_pos]
      exact this⟩
    have hlen : ((List.range n).map f).length = n := by simp
    refine ⟨(List.range n).map f, ⟨some a, cap, by rw [hlen], by rw [hlen]; exact hl, hm, fun i hi => ?_⟩, rfl⟩
    rw [hlen] at hi
    obtain ⟨h1, h2⟩ := hfz i hi
    have hlt := block_lt_of_cell h1
    rw [add_block] at hlt
    refine ⟨a, V i, rfl, hlt, h1, ?_⟩
    have e : ((List.range n).map f).getD i [] = f i := by simp [List.getD, hi]
    rw [e]; exact h2
set_option maxRecDepth 100000 in
theorem open_bools {H : Type} {enc : TypeId × Value → H} {w : World} {base : Nat} {sp : Nat → Bool} {held : Bool} {r : Reach} {b0 : Nat} {v : Value} {y : DataW H} {ps : List MemPlace} (_lt : ∀ x ∈ ps, x.block < w.heap.size)
    (hval : Value.okWide Try.prog w r b0 39 v) (hd : DataW.Trod enc Try.prog w base sp held 39 v y ps) :
    ∃ (a : Value) (bs : List Bool), RBo w w.heap.size a bs ∧ a = v := by
  obtain ⟨A, n, cap, rfl⟩ := okWide_slice Try.underlying39 hval
  obtain ⟨fuel, hf⟩ := hd
  refine ⟨.slice A n cap, ?_⟩
  rcases Go.Deep.open_slice1 Try.underlying39 cellsBool hf with ⟨hcs, _⟩ | ⟨a, len, cap', m, k, V, D, Pl, hcs, _, hl, hm, hmm, _, hel⟩
  · simp [Value.cells] at hcs
    obtain ⟨rfl, rfl, rfl⟩ := hcs
    exact ⟨[], ⟨none, 0, rfl, Nat.le_refl _, by decide, fun i h => absurd h (by simp)⟩, rfl⟩
  · simp [Value.cells] at hcs
    obtain ⟨rfl, rfl, rfl⟩ := hcs
    have hnm : n ≤ m := by rw [hmm]; split <;> omega
    have hc : ∀ i, i < n → ∃ b : Bool, w.cell? (a.add i) = some (.bool b) := by
      intro i hi
      obtain ⟨h2, h3⟩ := hel i (by omega)
      obtain ⟨b, eb, _⟩ := DataW.trod_bool Try.underlying4 h3
      exact ⟨b, by rw [h2]; simpa using eb⟩
    obtain ⟨f, hfz⟩ : ∃ f : Nat → Bool, ∀ i, i < n → w.cell? (a.add i) = some (.bool (f i)) := ⟨fun i => if h : i < n then Classical.choose (hc i h) else false, fun i hi => by
      have := Classical.choose_spec (hc i hi)
      simp only [hi, dif_pos]
      exact this⟩
    have hlen : ((List.range n).map f).length = n := by simp
    refine ⟨(List.range n).map f, ⟨some a, cap, by rw [hlen], by rw [hlen]; exact hl, hm, fun i hi => ?_⟩, rfl⟩
    rw [hlen] at hi
    have h1 := hfz i hi
    have hlt := block_lt_of_cell h1
    rw [add_block] at hlt
    refine ⟨a, rfl, hlt, ?_⟩
    have e : ((List.range n).map f).getD i false = f i := by simp [List.getD, hi]
    rw [e]; exact h1
/-- What DiskKeeps knows of the disk. -/
def nF : ByteArray := ⟨#[102]⟩
structure KInv (S : St) (L : List Nat) (m c : Nat) : Prop where
  quota : S.quota = 10000
  steps : S.steps ≤ c
  fs : (S.fs = [] ∧ L = [] ∧ m = 0) ∨ ∃ ev, S.fs = [(nF, ⟨L, m, ev⟩)]
  mle : m ≤ L.length
theorem refC_f {S : St} (h : S.off = false) : refC S [nF] = 0 := by
  unfold refC
  rw [if_neg (by rw [h]; simp)]
  rfl
theorem stepS_fs (S : St) : (stepS S).fs = S.fs ∧ (stepS S).quota = S.quota ∧ (stepS S).steps = S.steps := by
  unfold stepS
  split <;> exact ⟨rfl, rfl, rfl⟩
theorem stepC_vals (a : Option Nat) : stepC a = 0 ∨ stepC a = 40 := by
  unfold stepC
  split
  · exact .inr rfl
  · exact .inl rfl
theorem KInv.append {S : St} {L l : List Nat} {m c : Nat} (h : KInv S L m c) (ho : S.off = false) (hl : L.length + l.length ≤ 3000) :
    KInv (appendS S nF l) (L ++ l) m (c + 1) ∧ (appendC S nF l = 0 ∨ appendC S nF l = 40) ∧ ∃ ev, (appendS S nF l).fs = [(nF, ⟨L ++ l, m, ev⟩)] := by
  have hu : used S.fs = L.length ∧ (getF S.fs nF).b = L ∧ ∃ ev, put S.fs nF (grow1 (getF S.fs nF) l) = [(nF, ⟨L ++ l, m, ev⟩)] := by
    rcases h.fs with ⟨h1, rfl, rfl⟩ | ⟨ev, h1⟩
    · rw [h1]
      exact ⟨rfl, rfl, false, rfl⟩
    · rw [h1]
      refine ⟨by simp [Dsk.used], ?_, ev, ?_⟩ <;> simp [getF, Dsk.get, Dsk.put, grow1]
  obtain ⟨h1, h2, ev, h3⟩ := hu
  have hr := refC_f ho
  have e : appendS S nF l = appS S nF l := by
    unfold appendS
    rw [if_neg (by simp [hr]), if_neg (by rw [h2]; omega), if_neg (by rw [h1, h.quota]; omega)]
  have e2 : appendC S nF l = stepC S.armed := by
    unfold appendC
    rw [if_neg (by simp [hr]), if_neg (by rw [h2]; omega), if_neg (by rw [h1, h.quota]; omega)]
  obtain ⟨g1, g2, g3⟩ := stepS_fs { plus1 S with fs := put S.fs nF (grow1 (getF S.fs nF) l) }
  have e3 : appS S nF l = stepS { plus1 S with fs := put S.fs nF (grow1 (getF S.fs nF) l) } := by unfold appS stepEnd; rw [if_neg (by simp)]
  rw [e, e2, e3]
  refine ⟨⟨by rw [g2]; exact h.quota, by rw [g3]; have := h.steps; show S.steps + 1 ≤ _; omega, .inr ⟨ev, by rw [g1]; exact h3⟩, by have := h.mle; rw [List.length_append]; omega⟩, stepC_vals _, ev, by rw [g1]; exact h3⟩
theorem KInv.sync {S : St} {L : List Nat} {m c : Nat} (h : KInv S L m c) (ho : S.off = false) (hf : ∃ ev, S.fs = [(nF, ⟨L, m, ev⟩)]) :
    (syncC S nF = 0 ∧ KInv (syncS S nF) L L.length (c + 1)) ∨ (syncC S nF = 40 ∧ KInv (syncS S nF) L m (c + 1)) := by
  obtain ⟨ev, hf⟩ := hf
  have hr := refC_f ho
  have hg : get S.fs nF = some ⟨L, m, ev⟩ := by rw [hf]; simp [Dsk.get]
  have hp : put S.fs nF (settleF ⟨L, m, ev⟩) = [(nF, ⟨L, L.length, true⟩)] := by rw [hf]; simp [Dsk.put, settleF]
  have e : syncS S nF = stepEnd S { plus1 S with fs := put S.fs nF (settleF ⟨L, m, ev⟩) } false := by
    unfold syncS
    rw [if_neg (by simp [hr]), hg]
  have e2 : syncC S nF = stepC S.armed := by
    unfold syncC
    rw [if_neg (by simp [hr]), hg]
  have hs := h.steps
  rw [e, e2]
  unfold stepEnd
  by_cases ha : S.armed = some 0
  · right
    rw [if_pos ⟨ha, rfl⟩]
    refine ⟨by unfold stepC; rw [if_pos ha], h.quota, (show S.steps + 1 ≤ c + 1 by omega), .inr ⟨ev, hf⟩, h.mle⟩
  · left
    rw [if_neg (fun hh => ha hh.1)]
    obtain ⟨g1, g2, g3⟩ := stepS_fs { plus1 S with fs := put S.fs nF (settleF ⟨L, m, ev⟩) }
    refine ⟨by unfold stepC; rw [if_neg ha], by rw [g2]; exact h.quota, by rw [g3]; show S.steps + 1 ≤ c + 1; omega, .inr ⟨true, by rw [g1]; exact hp⟩, Nat.le_refl _⟩
def lastS (S : St) (k : Int) : St := onS { S with off := true, armed := none } [k]
theorem KInv.last {S : St} {L : List Nat} {m c : Nat} (h : KInv S L m c) (k : Int) :
    (readC (lastS S k) nF = 5 ∧ m = 0 ∧ readB (lastS S k) nF = []) ∨ ∃ j, readC (lastS S k) nF = 0 ∧ readB (lastS S k) nF = L.take j ∧ m ≤ j ∧ j ≤ L.length := by
  have hoff : (lastS S k).off = false := by unfold lastS onS; rfl
  have hr := refC_f hoff
  have hfs : (lastS S k).fs = recAll [k] 0 S.fs := by unfold lastS onS; rfl
  unfold readC readB
  rw [if_neg (by simp [hr]), if_neg (by simp [hr]), hfs]
  rcases h.fs with ⟨h1, rfl, rfl⟩ | ⟨ev, h1⟩
  · rw [h1]
    exact .inl ⟨rfl, rfl, rfl⟩
  · rw [h1]
    have hs := staysN_le k (L.length - m)
    have hm := h.mle
    unfold recAll
    by_cases hz : (recF ⟨L, m, ev⟩ ([k].getD 0 0)).sure = 0 ∧ (⟨L, m, ev⟩ : Fl).ever = false
    · rw [if_pos hz]
      have : m + staysN k (L.length - m) = 0 := hz.1
      exact .inl ⟨rfl, by omega, rfl⟩
    · rw [if_neg hz]
      refine .inr ⟨m + staysN k (L.length - m), ?_, ?_, by omega, by omega⟩
      · simp [Dsk.get, recAll]
      · simp [getF, Dsk.get, recAll, recF]
end Go.Proofs.Ytfgbaigpmhnoaaa
