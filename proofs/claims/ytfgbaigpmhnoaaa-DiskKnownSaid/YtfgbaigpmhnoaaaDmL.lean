/- disk: Copy: what the loop keeps (maths over memory). -/
import Derived.Test.YtfgbaigpmhnoaaaDmK
set_option linter.unusedVariables false
set_option linter.unusedSimpArgs false
namespace Go.Proofs.Ytfgbaigpmhnoaaa
open Go.RowKit Go.BigFrame Go.Maps
open Dsk (Fl St Ok get put drop used)

structure CopyInv (w wr : World) (cb mb2 r n2 : Nat) (D2 : DataW Unit) (ro2 : Nat → Role) (S : St) (left : Lit → Bool) : Prop where
  own : wr.ownsMap Try.prog 9 ptrElem mb2 n2 D2
  old : ∀ b, ro2 b ≠ .none → w.heap.size ≤ b ∧ b < wr.heap.size
  rcb : ro2 cb = .disk
  rmb : ro2 mb2 = .map
  rit : ro2 r = .none
  has : ∀ s, Maps.has D2 (kS s) = ((get S.fs s).isSome && !left (kS s))
  file : ∀ s f, get S.fs s = some f → left (kS s) = false → ∃ fb v, D2.atKey (kS s) .nil = .lit (.int .i64 ((fb : Nat) : Int)) ∧ FileAt wr w.heap.size ro2 s fb v f
def roCopy (ro2 : Nat → Role) (x : ByteArray) (fb : Nat) (v : Value) (b : Nat) : Role := if b = fb then .file x else if v.ownBlock = some b then .row x else ro2 b
theorem sameKey_kS (s t : ByteArray) : (kS s).sameKey (kS t) = decide (s = t) := by
  unfold kS
  rw [Bool.eq_iff_iff]
  simp only [Lit.sameKey, decide_eq_true_eq]
  constructor
  · intro h
    exact str_ext (by simpa using h)
  · intro h; subst h; simp
theorem CopyInv.step {w wr w' : World} {cb mb2 r n2 fb : Nat} {D2 : DataW Unit} {ro2 : Nat → Role} {S : St} {left : Lit → Bool} {x : ByteArray} {f : Fl} {v : Value} (h : CopyInv w wr cb mb2 r n2 D2 ro2 S left) (hg : get S.fs x = some f)
    (hw : w.heap.size ≤ wr.heap.size) (hc : Ch wr w' (fun b => b = mb2 ∨ b = r)) (hfb : wr.heap.size ≤ fb) (hv : ∀ g, v.ownBlock = some g → wr.heap.size ≤ g ∧ g ≠ fb) (hrl : r < wr.heap.size)
    (hblk : w'.heap[fb]? = some (.cells #[v, .int .i64 (f.sure : Int), .bool f.ever] 64 (0, 0))) (hrow : w'.ownsRow w.heap.size 5 1 v f.b.length (bvs f.b)) (hown : w'.ownsMap Try.prog 9 ptrElem mb2 (n2 + 1) (D2.put (kS x) (.lit (.int .i64 ((fb : Nat) : Int))))) :
    CopyInv w w' cb mb2 r (n2 + 1) (D2.put (kS x) (.lit (.int .i64 ((fb : Nat) : Int)))) (roCopy ro2 x fb v) S (fun z => left z && !z.sameKey (kS x)) := by
  have hk : ∀ b, b < wr.heap.size → roCopy ro2 x fb v b = ro2 b := fun b hb => by
    unfold roCopy
    rw [if_neg (by omega), if_neg (fun e => by have := (hv b e).1; omega)]
  have hl := fun b (hb : ro2 b ≠ .none) => (h.old b hb).2
  have hfl := block_lt hblk
  refine ⟨hown, fun b hb => ?_, ?_, ?_, ?_, fun s => ?_, fun s g hs hls => ?_⟩
  · unfold roCopy at hb
    by_cases e : b = fb
    · subst e; exact ⟨by omega, hfl⟩
    · rw [if_neg e] at hb
      by_cases e2 : v.ownBlock = some b
      · exact ⟨by have := (hv b e2).1; omega, (hrow.lt b e2).2⟩
      · rw [if_neg e2] at hb
        exact ⟨(h.old b hb).1, Nat.lt_of_lt_of_le (hl b hb) hc.size⟩
  · rw [hk cb (hl cb (by rw [h.rcb]; simp))]; exact h.rcb
  · rw [hk mb2 (hl mb2 (by rw [h.rmb]; simp))]; exact h.rmb
  · rw [hk r hrl]; exact h.rit
  · by_cases e : s = x
    · subst e
      rw [has_put_same h.own.isMap (kS_key s) _, hg, sameKey_kS]
      simp
    · rw [has_put_other (fun e2 => e (kS_inj e2)) _, h.has s, sameKey_kS]
      simp [e]
  · by_cases e : s = x
    · subst e
      rw [hg] at hs; cases hs
      refine ⟨fb, v, atKey_put_same h.own.isMap (kS_key s) _ _, ⟨by unfold roCopy; rw [if_pos rfl], hblk, hrow, fun b hb => ?_⟩⟩
      unfold roCopy
      rw [if_neg (hv b hb).2, if_pos hb]
    · rw [sameKey_kS] at hls
      obtain ⟨fb', v', h1, h2⟩ := h.file s g hs (by simpa [e] using hls)
      refine ⟨fb', v', by rw [atKey_put_other (fun e2 => e (kS_inj e2)) _ _]; exact h1, ?_⟩
      have h3 := h2.ch hc fun b hb hM => by
        rcases hM with rfl | rfl
        · rw [h.rmb] at hb; rcases hb with hb | hb <;> cases hb
        · rw [h.rit] at hb; rcases hb with hb | hb <;> cases hb
      exact ⟨by rw [hk fb' (hl fb' (by rw [h2.rfb]; simp))]; exact h3.rfb, h3.blk, h3.row, fun b hb => by rw [hk b (hl b (by rw [h2.rrow b hb]; simp))]; exact h3.rrow b hb⟩
def CopyPost (w : World) (S : St) (e : Ending) (w' : World) : Prop := ∃ db ro, e = .returned (.pointer (some ⟨db, 0, none⟩)) ∧ DiskAt w' w.heap.size db ro S ∧ Below w.heap.size w w'
theorem CopyInv.done {w wr : World} {base db mb cb mb2 r n n2 : Nat} {D D2 : DataW Unit} {av : Value} {ro ro2 : Nat → Role} {S : St} {left : Lit → Bool} (hd : DiskIn w base db mb n D av ro S) (h : CopyInv w wr cb mb2 r n2 D2 ro2 S left) (hl : ∀ kl, left kl = false) (hn : n2 ≤ S.steps)
    (av2 : Value) (hblk : wr.heap[cb]? = some (.cells (diskCells mb2 av2 S) 58 (0, 0))) (ha : ArmAt wr ro2 av2 S.armed) : DiskIn wr w.heap.size cb mb2 n2 D2 av2 ro2 S :=
  ⟨hblk, h.own, hn, h.rcb, h.rmb, h.old, fun s => by rw [h.has s, hl]; simp, ha, fun s f hs => h.file s f hs (hl _), hd.ok⟩
/-- What it is armed with, copied too. -/
theorem CopyInv.armed {w wr : World} {base db mb cb mb2 r n n2 k : Nat} {D D2 : DataW Unit} {av av2 : Value} {ro ro2 : Nat → Role} {S : St} {left : Lit → Bool} (hd : DiskIn w base db mb n D av ro S) (h : CopyInv w wr cb mb2 r n2 D2 ro2 S left) (hl : ∀ kl, left kl = false) (hn : n2 ≤ S.steps)
    (hblk : wr.heap[cb]? = some (.cells (diskCells mb2 av2 S) 58 (0, 0))) (ha : S.armed = some k) (hw : w.heap.size ≤ wr.heap.size) :
    ∃ ro3, DiskIn ((wr.alloc (.cells #[.int .i64 (k : Int)] 3)).setCell ⟨cb, 4, none⟩ (.pointer (some ⟨wr.heap.size, 0, none⟩))) w.heap.size cb mb2 n2 D2 (.pointer (some ⟨wr.heap.size, 0, none⟩)) ro3 S := by
  have hcl := (h.old cb (by rw [h.rcb]; simp)).2
  have hk : ∀ b, b < wr.heap.size → (if b = wr.heap.size then Role.arm else ro2 b) = ro2 b := fun b hb => by rw [if_neg (by omega)]
  have hl2 := fun b (hb : ro2 b ≠ .none) => (h.old b hb).2
  have hc : Ch wr ((wr.alloc (.cells #[.int .i64 (k : Int)] 3)).setCell ⟨cb, 4, none⟩ (.pointer (some ⟨wr.heap.size, 0, none⟩))) (fun b => b = cb) := ((Ch.refl wr (fun b => b = cb)).alloc _).setCell (p := ⟨cb, 4, none⟩) rfl _
  have hb2 : (wr.alloc (.cells #[.int .i64 (k : Int)] 3)).heap[cb]? = some (.cells (diskCells mb2 av2 S) 58 (0, 0)) := (old_block _ _ _ hcl).trans hblk
  refine ⟨fun b => if b = wr.heap.size then .arm else ro2 b, ?_, own_map_ch h.own hc (fun e => by have := h.rmb; rw [e, h.rcb] at this; cases this), hn, by rw [hk cb hcl]; exact h.rcb, by rw [hk mb2 (hl2 mb2 (by rw [h.rmb]; simp))]; exact h.rmb, fun b hb => ?_, fun s => by rw [h.has s, hl]; simp, .inr ⟨k, wr.heap.size, ha, rfl, by simp, ?_⟩, fun s f hs => ?_, hd.ok⟩
  · rw [blk_set hb2 4 _]; rfl
  · by_cases e : b = wr.heap.size
    · subst e; exact ⟨hw, by simp⟩
    · rw [if_neg e] at hb
      have := h.old b hb
      exact ⟨this.1, by simp; omega⟩
  · exact (heap_setCell_other _ _ _ _ (by show wr.heap.size ≠ cb; omega)).trans (heap_alloc_new wr _)
  · obtain ⟨fb, v, h1, h2⟩ := h.file s f hs (hl _)
    have h3 := h2.ch hc fun b hb hM => by
      subst hM
      rw [h.rcb] at hb; rcases hb with hb | hb <;> cases hb
    exact ⟨fb, v, h1, by rw [hk fb (hl2 fb (by rw [h2.rfb]; simp))]; exact h3.rfb, h3.blk, h3.row, fun b hb => by rw [hk b (hl2 b (by rw [h2.rrow b hb]; simp))]; exact h3.rrow b hb⟩
end Go.Proofs.Ytfgbaigpmhnoaaa

/- disk: Copy, walked. -/
namespace Go.Proofs.Ytfgbaigpmhnoaaa
open Go.RowKit Go.BigFrame Go.Maps
open Dsk (Fl St Ok get put drop used)

theorem grown_set (w : World) (g i : Nat) (u : Value) : w.grownBy (w.setCell ⟨g, i, none⟩ u) (some g) :=
  ⟨rfl, rfl, rfl, by simp, fun k _ hk => Below.heap_setCell _ _ _ _ (fun e => hk (by rw [e]))⟩
theorem Ch.new {w w' : World} {M : Nat → Prop} {p : Nat} (h : Ch w w' (fun b => M b ∨ b = p)) (hp : w.heap.size ≤ p) : Ch w w' M :=
  h.weak fun k hk hM => hM.elim id fun e => absurd e (by omega)
set_option maxRecDepth 100000 in
set_option maxHeartbeats 8000000 in
theorem copy_any (w : World) (base db : Nat) (ro : Nat → Role) (S : St) (h : DiskAt w base db ro S) : Calls Try.prog 12 #[.pointer (some ⟨db, 0, none⟩)] w (CopyPost w S) := by
  obtain ⟨i0, hi, hz0, hz1, hz2⟩ := info_parts infoU8
  have HI := Lib.hid (And.intro hi (And.intro hz0 (And.intro hz1 hz2)))
  clear hi hz0 hz1 hz2
  obtain ⟨mb, n, D, av, hd⟩ := h
  have HP := Lib.hid (fun (w' : World) (cb : Nat) (ro2 : Nat → Role) (hdd : DiskAt w' w.heap.size cb ro2 S) (hb : Below w.heap.size w w') => show CopyPost w S (.returned (.pointer (some ⟨cb, 0, none⟩))) w' from ⟨cb, ro2, rfl, hdd, hb⟩)
  generalize CopyPost w S = post at *
  have hn := hd.bnd
  have hst := hd.ok.low
  have hown := hd.own
  have hD := hown.size_le
  obtain ⟨k0, k1, k2, k3, k4, k5⟩ := hd.cells
  have hmbl := hown.lt
  have hdbl := block_lt hd.blk
  have HD := Lib.hid hd
  have hmm := @run_makeMap Try.prog
  obtain ⟨ao, hav⟩ : ∃ ao, av = .pointer ao := by
    rcases hd.arm with ⟨_, e⟩ | ⟨_, ab, _, e, _⟩
    · exact ⟨_, e⟩
    · exact ⟨_, e⟩
  subst hav
  clear hd
  go_enter Try.func12, Try.ntmps12
  go_upto_region 5 with (fail)
  obtain ⟨W1, hW1⟩ : ∃ W1, W1 = ((w.alloc (.cells #[.int .i64 S.quota, .map (some (w.heap.size + 1)), .int .i64 (used S.fs : Int), .int .i64 (S.steps : Int), .pointer ao, .bool S.off] 58)).alloc (.map #[] 0)) := ⟨_, rfl⟩
  rw [← hW1]
  have hz1 : W1.heap.size = w.heap.size + 2 := by rw [hW1]; simp
  have hb1 : Below w.heap.size w W1 := by rw [hW1]; exact ((Below.refl _ _).alloc (Nat.le_refl _) _).alloc (by simp) _
  have hx1 : W1.heap[w.heap.size]? = some (.cells (diskCells (w.heap.size + 1) (.pointer ao) S) 58 (0, 0)) := by rw [hW1]; exact (old_block _ _ _ (by simp)).trans (heap_alloc_new w _)
  have ho1 : W1.ownsMap Try.prog 9 ptrElem mb n D := by rw [hW1]; exact (hown.alloc _).alloc _
  have ho2 : W1.ownsMap Try.prog 9 ptrElem (w.heap.size + 1) 0 (.map []) := by
    rw [hW1]
    have := World.ownsMap_made (w.alloc (.cells #[.int .i64 S.quota, .map (some (w.heap.size + 1)), .int .i64 (used S.fs : Int), .int .i64 (S.steps : Int), .pointer ao, .bool S.off] 58)) Try.prog 9 ptrElem
    simpa using this
  have e1 : W1.cell? ⟨db, 1, none⟩ = some (.map (some mb)) := by rw [blk_cell ((hb1.block db hdbl).trans HD.out.blk)]; rfl
  have HB1 := Lib.hid (And.intro hb1 (And.intro hz1 hx1))
  have HO2 := Lib.hid ho2
  clear hz1 hW1 hb1 hx1 ho2 hown k0 k1 k2 k3 k4 k5 hmm
  go_wp2_with (at_range; refine wpList_range_own _ rfl _ 55 rfl 9 62 keyStr Try.underlying55 ptrElem mb n D rfl ho1 ?_; intro w0 hrg0 hg0 hs0)
  go_frame
  have hwz1 : w.heap.size + 2 ≤ W1.heap.size := by have := HB1.out.2.1; omega
  have hc0 : Ch W1 w0 (fun _ => False) := (Ch.refl W1 (fun _ => False)).grown hg0 (fun k _ e => by cases e)
  have HB0 := Lib.hid (show Below w.heap.size w w0 from HB1.out.1.trans (hc0.below (by omega) (fun _ h => h.elim)))
  have HX0 := Lib.hid (show w0.heap[w.heap.size]? = some (.cells (diskCells (w.heap.size + 1) (.pointer ao) S) 58 (0, 0)) from hc0.heap HB1.out.2.2 (fun h => h))
  have HC0 := Lib.hid (show CopyInv w w0 w.heap.size (w.heap.size + 1) W1.heap.size 0 (.map []) (fun b => if b = w.heap.size then .disk else if b = w.heap.size + 1 then .map else .none) S (Maps.has D) from by
    refine ⟨own_map_ch HO2.out hc0 (fun h => h), fun b hb => ?_, by simp, by simp, by rw [if_neg (by omega), if_neg (by omega)], fun s => ?_, fun s f hs hl => ?_⟩
    · by_cases e : b = w.heap.size
      · subst e; omega
      · by_cases e2 : b = w.heap.size + 1
        · subst e2; omega
        · simp [e, e2] at hb
    · rw [HD.out.has s]; cases (get S.fs s) <;> rfl
    · rw [HD.out.has s, hs] at hl; cases hl)
  have hsz0 : W1.heap.size + 1 ≤ w0.heap.size := by omega
  go_loopw [4, 5, 6] (fun _ _ _ wr => ∃ (left : Lit → Bool) (cnt n2 : Nat) (D2 : DataW Unit) (ro2 : Nat → Role), Hid (wr.ranges Try.prog 9 ptrElem mb W1.heap.size n D left cnt) ∧ n2 + cnt ≤ Maps.size D ∧ Hid (CopyInv w wr w.heap.size (w.heap.size + 1) W1.heap.size n2 D2 ro2 S left) ∧ Hid (Below w.heap.size w wr) ∧ Hid (wr.heap[w.heap.size]? = some (.cells (diskCells (w.heap.size + 1) (.pointer ao) S) 58 (0, 0))) ∧ W1.heap.size + 1 ≤ wr.heap.size) (fun _ _ _ wr => wr.rangeLeft mb W1.heap.size)
  case atStart => exact ⟨_, _, 0, _, _, Lib.hid hrg0, by simp, HC0, HB0, HX0, hsz0⟩
  case round =>
    obtain ⟨left, cnt, n2, D2, ro2, HR, hlen, HC, HB, HX, hws⟩ := hrel
    have hrg := HR.out
    clear hrg0 hg0 hc0
    go_wp2_with (at_next; refine wpList_next_ranges _ rfl _ rfl 9 keyStr ptrElem Value.string Value.pointer (fun key kl hkey => by obtain ⟨x, rfl, _⟩ := Maps.keyOf_str Try.underlying9 hkey; exact ⟨⟨x.toArray⟩, by simp [encStr]⟩) (fun v y hv => by rcases ptrElem_inv hv with ⟨b, rfl, _⟩ | ⟨rfl, _⟩ <;> exact ⟨_, rfl⟩) mb W1.heap.size n D left cnt rfl hrg ?_ ?_)
    · intro hc0 hl0
      have hn2 : n2 ≤ S.steps := by omega
      have HL0 := Lib.hid hl0
      have HN2 := Lib.hid hn2
      have kx : wr.cell? ⟨db, 4, none⟩ = some (.pointer ao) := by rw [blk_cell ((HB.out.block db hdbl).trans HD.out.blk)]; rfl
      rcases HD.out.arm with ⟨ha, hap⟩ | ⟨k, ab, ha, hap, hra, hab⟩
      · have hao : ao = none := by injection hap
        subst hao
        have HQ := Lib.hid (HP.out wr w.heap.size ro2 ⟨_, _, _, _, HC.out.done HD.out hl0 hn2 (.pointer none) HX.out (.inl ⟨ha, rfl⟩)⟩ HB.out)
        clear hl0 hn2 HC HX HP ha hap HL0
        go_wp2
        exact HQ.out
      · have hao : ao = some ⟨ab, 0, none⟩ := by injection hap
        subst hao
        have habl := (HD.out.old ab (by rw [hra]; simp)).2
        obtain ⟨ro3, hd3⟩ := HC.out.armed HD.out hl0 hn2 HX.out ha (by omega)
        have ka : wr.cell? ⟨ab, 0, none⟩ = some (.int .i64 (k : Int)) := by rw [blk_cell ((HB.out.block ab habl).trans hab)]; rfl
        have HQ := Lib.hid (fun w' (hw : w' = (wr.alloc (.cells #[.int .i64 (k : Int)] 3)).setCell ⟨w.heap.size, 4, none⟩ (.pointer (some ⟨wr.heap.size, 0, none⟩))) => show post (.returned (.pointer (some ⟨w.heap.size, 0, none⟩))) w' from by
          rw [hw]; exact HP.out _ w.heap.size ro3 ⟨_, _, _, _, hd3⟩ ((HB.out.alloc (by omega) _).setCell (Nat.le_refl _) _))
        have hx2 : (wr.alloc (.cells #[.int .i64 (k : Int)] 3)).heap[w.heap.size]? = some (.cells (diskCells (w.heap.size + 1) (.pointer (some ⟨ab, 0, none⟩)) S) 58 (0, 0)) := (old_block _ _ _ (by omega)).trans HX.out
        have kc : (wr.alloc (.cells #[.int .i64 (k : Int)] 3)).cell? ⟨w.heap.size, 4, none⟩ = some (.pointer (some ⟨ab, 0, none⟩)) := by rw [blk_cell hx2]; rfl
        have kf : (wr.alloc (.cells #[.int .i64 (k : Int)] 3)).frozen? ⟨w.heap.size, 4, none⟩ = false := blk_free hx2 4
        clear hl0 hn2 HC HX HP ha hap HL0 hd3 hab hx2
        go_wp2
        exact HQ.out _ rfl
    · intro x c kl yd yp w1 cnt1 hkey hlx hv hat hrg1 hlt hg1 hs1 hen
      obtain ⟨x', hx1, rfl, _⟩ := Maps.keyOf_str Try.underlying9 hkey
      obtain rfl : x' = x.data.toList := by simp [encStr] at hx1; rw [hx1]
      have hhas : Maps.has D (kS x) = true := Maps.has_true_of_atKey hat
      obtain ⟨f, hgx⟩ : ∃ f, get S.fs x = some f := by
        rw [HD.out.has x] at hhas
        cases hg : get S.fs x with
        | none => rw [hg] at hhas; cases hhas
        | some f => exact ⟨f, rfl⟩
      obtain ⟨fb, v, hatf, hfa⟩ := HD.out.file x f hgx
      have hc : c = some ⟨fb, 0, none⟩ := by
        have hat0 := hat .nil
        unfold kS at hatf
        rw [hatf] at hat0
        rcases ptrElem_inv hv with ⟨b, e, e2⟩ | ⟨e, e2⟩
        · cases e
          have := congrArg Prod.fst e2
          dsimp only at this
          rw [← hat0] at this
          have : (fb : Int) = (b : Int) := by injection this with this; injection this
          obtain rfl : fb = b := by omega
          rfl
        · have := congrArg Prod.fst e2
          dsimp only at this
          rw [← hat0] at this; cases this
      subst hc
      have hfl := HD.out.ok.file x f hgx
      have hxs : x.size ≤ maxLen := by have := hfl.2.2.2.2; unfold maxLen; omega
      have hll := hfl.2.2.1
      obtain ⟨Af, capf, hvf⟩ := own_sl hfa.row
      subst hvf
      have hwr1 : Ch w wr (fun b => w.heap.size ≤ b) := Ch.of_below HB.out (fun b => w.heap.size ≤ b) fun _ _ hk => hk
      have hc1 : Ch wr w1 (fun b => b = W1.heap.size) := (Ch.refl wr (fun b => b = W1.heap.size)).grown hg1 (fun k _ e => (Option.some.inj e).symm)
      have hcw1 : Ch w w1 (fun b => w.heap.size ≤ b) := hwr1.trans hc1 (fun k hk e => by omega)
      have hfbl := block_lt hfa.blk
      have hfa1 : FileAt w1 base ro x fb (.slice Af f.b.length capf) f := hfa.ch hcw1 (fun b hb hM => by have := (HD.out.old b (by rcases hb with hb | hb <;> rw [hb] <;> simp)).2; omega)
      obtain ⟨W2, hW2⟩ : ∃ W2, W2 = w1.alloc (.cells #[.slice Af f.b.length capf, .int .i64 (f.sure : Int), .bool f.ever] 64) := ⟨_, rfl⟩
      have hx2 : W2.heap[w1.heap.size]? = some (.cells #[.slice Af f.b.length capf, .int .i64 (f.sure : Int), .bool f.ever] 64 (0, 0)) := by rw [hW2]; exact heap_alloc_new w1 _
      have hc2 : Ch w1 W2 (fun _ => False) := by rw [hW2]; exact (Ch.refl w1 _).alloc _
      have hz2 : W2.heap.size = w1.heap.size + 1 := by rw [hW2]; simp
      have hfa2 : FileAt W2 base ro x fb (.slice Af f.b.length capf) f := hfa1.ch hc2 (fun _ _ h => h)
      have cf0 : w1.cell? ⟨fb, 0, none⟩ = some (.slice Af f.b.length capf) := by rw [blk_cell hfa1.blk]; rfl
      have cf1 : w1.cell? ⟨fb, 1, none⟩ = some (.int .i64 (f.sure : Int)) := by rw [blk_cell hfa1.blk]; rfl
      have cf2 : w1.cell? ⟨fb, 2, none⟩ = some (.bool f.ever) := by rw [blk_cell hfa1.blk]; rfl
      have cg0 : W2.cell? ⟨fb, 0, none⟩ = some (.slice Af f.b.length capf) := by rw [blk_cell hfa2.blk]; rfl
      have hcap : (Af = none → capf = 0) ∧ f.b.length ≤ capf := by
        rcases hfa.row.2 with ⟨e1, e2⟩ | ⟨g, cap', cur, e1, _, _, e3, _⟩
        · simp only [Value.slice.injEq] at e1
          obtain ⟨e3, _, e4⟩ := e1
          exact ⟨fun _ => e4, by omega⟩
        · cases e1; exact ⟨(fun h => by cases h), e3⟩
      have HCAP := Lib.hid hcap
      have HO := Lib.hid (holds_own hfa2.row rfl)
      have HRG := Lib.hid hrg1
      have HST := Lib.hid (And.intro hlt (And.intro hs1 hen))
      have hsz1 : w1.heap.size = wr.heap.size := hs1
      have HZ := Lib.hid (And.intro hz2 hsz1)
      have HC1 := Lib.hid (And.intro hc1 (And.intro hc2 hx2))
      have HGX := Lib.hid hgx
      have hrr := HR.out.left_eq
      have HRR := Lib.hid hrr
      have hwg : w.heap.size ≤ W2.heap.size := by omega
      have HXS := Lib.hid hxs
      clear hrg hrg1 hg1 hkey hx1 hlx hat hv hatf hfa hfa1 hfa2 hwr1 hcw1 hc1 hc2 hx2 hcap hfl hgx hhas hlt hs1 hz2 hsz1 hrr hxs
      go_upto_region 9 with (fail)
      rw [← hW2]
      clear hW2 hen
      go_wp2_with (at_builtin; go_loud (refine wpList_app_holds rfl _ _ 29 rfl W2.heap.size 5 i0 Try.underlying29 HI.out.1 HI.out.2.1 HI.out.2.2.1 HI.out.2.2.2 (.slice none 0 0) 0 [] rfl (World.ownsRow_nil _ _ _ _) W2.heap.size Af f.b.length capf (fun i => f.b.getD i 0) rfl HO.out HCAP.out.1 HCAP.out.2 ?b5 ?b6 (Nat.le_refl _) ?_))
      case b5 => unfold maxLen; omega
      case b6 => omega
      intro v' w3 ho3 hg3 _
      have ec3 : cells (fun i => f.b[i]?.getD 0) f.b.length = bvs f.b := bvs_cells f.b
      rw [ec3] at ho3
      obtain ⟨A3, c3, rfl⟩ := own_sl ho3
      have hc3 : Ch W2 w3 (fun _ => False) := (Ch.refl W2 _).grown hg3 (fun k _ e => by cases e)
      have hz3 := hc3.size
      have hx3 := hc3.heap HC1.out.2.2 (fun h => h)
      have ff := blk_free hx3 0
      have cc3 : w3.cell? ⟨w1.heap.size, 0, none⟩ = some (.slice Af f.b.length capf) := by rw [blk_cell hx3]; rfl
      obtain ⟨W4, hW4⟩ : ∃ W4, W4 = w3.setCell ⟨w1.heap.size, 0, none⟩ (.slice A3 f.b.length c3) := ⟨_, rfl⟩
      have hx4 : W4.heap[w1.heap.size]? = some (.cells #[.slice A3 f.b.length c3, .int .i64 (f.sure : Int), .bool f.ever] 64 (0, 0)) := by rw [hW4, blk_set hx3 0 _]; rfl
      have hd4 : Ch w1 W4 (fun b => b = w1.heap.size) := by
        rw [hW4]
        exact Ch.setCell (M := fun b => b = w1.heap.size) ((HC1.out.2.1.trans hc3 (fun _ _ h => h)).weak (fun _ _ h => h.elim)) (p := ⟨w1.heap.size, 0, none⟩) rfl _
      have ho4 : W4.ownsRow w.heap.size 5 1 (.slice A3 f.b.length c3) f.b.length (bvs f.b) := by
        rw [hW4]
        exact own_down (ownsRow_setCell_other ho3 (a := ⟨w1.heap.size, 0, none⟩) (fun e => by have := (ho3.lt w1.heap.size e).1; have := HZ.out.1; omega) _) hwg
      have hc4 : Ch wr W4 (fun b => b = W1.heap.size ∨ b = w1.heap.size) := (HC1.out.1.weak (fun _ _ h => .inl h)).trans hd4 (fun _ _ h => .inr h)
      have hown4 := own_map_ch HC.out.own hc4 (fun e => by have := HC.out.own.lt; have := HZ.out.2; rcases e with e | e <;> omega)
      have kx4 := hc4.heap HX.out (fun e => by have := HZ.out.2; rcases e with e | e <;> omega)
      have k14 : W4.cell? ⟨w.heap.size, 1, none⟩ = some (.map (some (w.heap.size + 1))) := by rw [blk_cell kx4]; rfl
      have HOW := Lib.hid hown4
      have HO4 := Lib.hid (And.intro ho4 (And.intro hd4 hx4))
      have HV4 := Lib.hid (fun g (e : (Value.slice A3 f.b.length c3).ownBlock = some g) => show wr.heap.size ≤ g ∧ g ≠ w1.heap.size from by have := (ho3.lt g e).1; have := HZ.out.1; have := HZ.out.2; omega)
      have hn2 : n2 ≤ 1000000000 := by omega
      clear hg3 hc3 hx3 hx4 hd4 ho4 hc4 hown4 kx4 ho3 ec3 cg0 cf0 cf1 cf2
      go_upto_region 10 with (fail)
      rw [← hW4]
      clear hW4 ff cc3
      go_wp2_with (at_mapUpdate; go_loud (refine wpList_mapUpdate_own _ rfl _ _ _ 55 rfl 9 62 keyStr Try.underlying55 ptrElem (w.heap.size + 1) n2 D2 rfl HOW.out (by unfold maxLen; omega) _ _ (kS x) rfl rfl (Go.WideMaps.keyOf_string_mk Try.underlying9 HXS.out) (.lit (.int .i64 ((w1.heap.size : Nat) : Int))) [] rfl ?_))
      intro w5 hown5 hg5
      have hd5 : Ch w1 w5 (fun b => b = w.heap.size + 1) := ((HO4.out.2.1.weak (fun _ _ h => .inr h)).grown hg5 (fun k _ e => .inl (Option.some.inj e).symm)).new (Nat.le_refl _)
      have hc45 : Ch W4 w5 (fun b => b = w.heap.size + 1) := (Ch.refl W4 _).grown hg5 (fun k _ e => (Option.some.inj e).symm)
      have hc5 : Ch wr w5 (fun b => b = w.heap.size + 1 ∨ b = W1.heap.size) := (HC1.out.1.weak (fun _ _ h => .inr h)).trans hd5 (fun _ _ h => .inl h)
      have hg15 : w1.grownBy w5 (some (w.heap.size + 1)) := ⟨hd5.os, hd5.tape, hd5.output, hd5.size, fun k hk hne => hd5.block k hk fun e => hne (by rw [e])⟩
      have HR5 := Lib.hid (HRG.out.kept hg15 (fun e => by have := Option.some.inj e; omega) (fun e => by have := Option.some.inj e; omega))
      have HC5 := Lib.hid (HC.out.step HGX.out (by omega) hc5 (by have := HZ.out.2; omega) HV4.out (by omega) (hc45.heap HO4.out.2.2 (by have := HZ.out.2; omega)) (hc45.own HO4.out.1 (fun b e hM => by have := (HV4.out b e).1; omega)) hown5)
      have HB5 := Lib.hid (HB.out.trans (hc5.below (by omega) (fun k hk => by rcases hk with e | e <;> omega)))
      have HX5 := Lib.hid (hc5.heap HX.out (fun e => by rcases e with e | e <;> omega))
      have hsz5 := hc5.size
      clear hd5 hc45 hc5 hg15 hown5 hg5 HC HB HX
      go_wp2
      go_roundw
      case rel => exact ⟨_, cnt1, n2 + 1, _, _, HR5, by have := HST.out.1; omega, HC5, HB5, HX5, by omega⟩
      case measure => rw [HR5.out.left_eq, HRR.out]; exact HST.out.1
end Go.Proofs.Ytfgbaigpmhnoaaa
