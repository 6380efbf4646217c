/- disk: what a call on both disks leaves; a row with a mark. -/
import Derived.Test.YtfgbaigpmhnoaaaDmSm
import Derived.Lib.ConvBytes
import Derived.Lib.AtoiErrMem
import Derived.Deep.RegionHeld3
set_option linter.unusedVariables false
set_option linter.unusedSimpArgs false
namespace Go.Proofs.Ytfgbaigpmhnoaaa
open Go.RowKit Go.BigFrame Go.Maps
open Dsk (Fl St Ok get put drop used)

/-- A row of bytes that may be written, whatever stands behind it. -/
structure MRow (w : World) (g : Nat) (L : List Nat) : Prop where
  lt : g < w.heap.size
  cell : ∀ j, j < L.length → w.cell? ⟨g, j, none⟩ = some (.int .u8 ((L.getD j 0 : Nat) : Int))
  free : ∀ j, j < L.length → w.frozen? ⟨g, j, none⟩ = false
theorem MRow.ch {w w' : World} {g : Nat} {L : List Nat} {M : Nat → Prop} (h : MRow w g L) (hc : Ch w w' M) (hm : ¬ M g) : MRow w' g L :=
  ⟨Nat.lt_of_lt_of_le h.lt hc.size, fun j hj => hc.cell (h.cell j hj) hm, fun j hj => (World.frozen?_of_block (hc.block g h.lt hm)).trans (h.free j hj)⟩
theorem MRow.set {w : World} {g : Nat} {L : List Nat} (h : MRow w g L) (k v : Nat) (hk : k < L.length) : MRow (w.setCell ⟨g, k, none⟩ (.int .u8 (v : Int))) g (L.set k v) := by
  refine ⟨by simpa using h.lt, fun j hj => ?_, fun j hj => ?_⟩
  · rw [List.length_set] at hj
    by_cases e : j = k
    · subst e
      rw [World.cell?_setCell_same _ _ _ (h.cell j hj)]
      simp [List.getD, hk]
    · rw [World.cell?_setCell_other _ _ _ _ (by intro e2; injection e2 with _ e2; exact e e2.symm), h.cell j hj]
      simp [List.getD, List.getElem?_set_ne (Ne.symm e)]
  · rw [List.length_set] at hj
    rw [World.frozen?_setCell]
    exact h.free j hj
theorem MRow.holds {w : World} {g : Nat} {L : List Nat} (h : MRow w g L) : Holds w w.heap.size (some ⟨g, 0, none⟩) L.length (fun i => L.getD i 0) := fun _ =>
  ⟨_, rfl, h.lt, fun j hj => by
    have e : (⟨g, 0, none⟩ : Addr).add j = ⟨g, j, none⟩ := by unfold Addr.add; by_cases h0 : j = 0 <;> simp [h0]
    rw [e]; exact h.cell j hj⟩
theorem MRow.bat {w : World} {g cap : Nat} {L : List Nat} (h : MRow w g L) (hc : L.length ≤ cap) (hm : cap ≤ maxLen) : BAt w (fun _ => True) (.slice (some ⟨g, 0, none⟩) L.length cap) L :=
  ⟨_, cap, rfl, hc, hm, (fun h => by cases h), fun h0 => by
    obtain ⟨ad, e1, e2, e3⟩ := h.holds h0
    exact ⟨ad, e1, trivial, e2, e3⟩⟩
theorem bytes_new (w : World) (L : List Nat) (hL : ∀ x ∈ L, x < 256) (hl : L.length ≤ maxLen) : ∃ W' cap, (convert 9 29 (.string (strOf (L.map UInt8.ofNat)))).run Try.prog w = .ok (.slice (some ⟨w.heap.size, 0, none⟩) L.length cap) W' ∧ L.length ≤ cap ∧ cap ≤ maxLen ∧ MRow W' w.heap.size L ∧ Below w.heap.size w W' ∧ W'.heap.size = w.heap.size + 1 := by
  have hs : (strOf (L.map UInt8.ofNat)).size = L.length := by rw [strOf_size, List.length_map]
  have hr := Lib.run_convert_string_bytes (P := Try.prog) w 9 29 5 (strOf (L.map UInt8.ofNat)) (u := .string) Try.underlying9 Try.underlying29 Try.underlying5
  rw [hs] at hr
  refine ⟨_, _, hr, grownCap_ge _ _ _ _, grownCap_le_maxLen _ _ _ _ hl, ⟨by rw [Lib.bytesWorld_size]; omega, fun j hj => ?_, fun j hj => ?_⟩, Lib.bytesWorld_below _ _ _, Lib.bytesWorld_size _ _ _⟩
  · rw [Lib.bytesWorld_cell _ _ _ j (by rw [hs]; exact hj)]
    have : ((strOf (L.map UInt8.ofNat)).data.toList.getD j 0).toNat = L.getD j 0 := by
      have e : (strOf (L.map UInt8.ofNat)).data.toList = L.map UInt8.ofNat := by unfold strOf; rfl
      rw [e]
      have hb := hL L[j] (List.getElem_mem hj)
      simp [List.getD, hj]
      omega
    rw [this]
  · have hn := Lib.bytesWorld_at_new w 5 (strOf (L.map UInt8.ofNat))
    have hz : L.length ≤ (Lib.bytesCells w 5 (strOf (L.map UInt8.ofNat))).size := by
      unfold Lib.bytesCells
      simp [strOf]
    simp only [World.frozen?, hn]
    simp
    omega
/-- Behind the disk's call. -/
def Mid (W : World) (base db : Nat) (ro : Nat → Role) (S1 : St) (w' : World) : Prop := ∃ ro1, Left W w' base db ro S1 ro1
theorem Mid.drew {W w' : World} {base db : Nat} {ro : Nat → Role} {S1 : St} (h : Mid W base db ro S1 w') : Mid W base db ro S1 w'.drew := by
  obtain ⟨ro1, hl⟩ := h
  exact ⟨ro1, hl.disk.below (Below.refl _ _).drew, hl.sub, hl.ch.drew⟩
/-- Which blocks the reference's rows may lie in. -/
def Pg (ro : Nat → Role) (G : Nat → Prop) (b : Nat) : Prop := ro b = .none ∧ ¬ G b
/-- Behind both calls. -/
def Fin2 (W : World) (base db rbase rb : Nat) (G : Nat → Prop) (ro : Nat → Role) (S1 : St) (w' : World) : Prop :=
  ∃ ro1, DiskAt w' base db ro1 S1 ∧ RefAt w' rbase (Pg ro1 G) rb S1 ∧ ro1 rb = .none ∧ Sub W ro ro1 ∧ Ch W w' (fun b => Own ro b ∨ b = rb)
theorem Fin2.drew {W w' : World} {base db rbase rb : Nat} {G : Nat → Prop} {ro : Nat → Role} {S1 : St} (h : Fin2 W base db rbase rb G ro S1 w') : Fin2 W base db rbase rb G ro S1 w'.drew := by
  obtain ⟨ro1, h1, h2, h3, h4, h5⟩ := h
  exact ⟨ro1, h1.below (Below.refl _ _).drew, h2.below (Below.refl _ _).drew, h3, h4, h5.drew⟩
theorem own_none {ro : Nat → Role} {b : Nat} (h : ro b = .none) : ¬ Own ro b := fun ho => ho h
theorem sub_none {W : World} {ro ro1 : Nat → Role} (h : Sub W ro ro1) {b : Nat} (hb : b < W.heap.size) (h0 : ro b = .none) : ro1 b = .none := by
  cases hr : ro1 b with
  | none => rfl
  | _ => exact absurd h0 (h b hb (by unfold Own; rw [hr]; simp))
theorem Mid.ref {W w' : World} {base db rbase rb : Nat} {G : Nat → Prop} {ro ro1 : Nat → Role} {S S1 : St} (hr : RefAt W rbase (Pg ro G) rb S) (hrb : ro rb = .none) (hl : Left W w' base db ro S1 ro1) : RefAt w' rbase (Pg ro1 G) rb S ∧ ro1 rb = .none := by
  have h1 := hr.ch hl.ch (own_none hrb) (fun b _ hP _ => own_none hP.1)
  have hm : RefAt W rbase (fun b => Pg ro G b ∧ b < W.heap.size) rb S := hr.mono fun b hb hP _ => ⟨hP, hb⟩
  have h2 := hm.ch hl.ch (own_none hrb) (fun b _ hP _ => own_none hP.1.1)
  exact ⟨h2.mono fun b _ hP _ => ⟨sub_none hl.sub hP.2 hP.1.1, hP.1.2⟩, sub_none hl.sub hr.lt.1 hrb⟩
theorem Mid.fin {W w' w2 : World} {base db rbase rb : Nat} {G : Nat → Prop} {ro ro1 : Nat → Role} {S1 : St} (hl : Left W w' base db ro S1 ro1) (hrb : ro1 rb = .none) (h2 : RefLeft w' w2 rbase (Pg ro1 G) rb S1) : Fin2 W base db rbase rb G ro S1 w2 :=
  ⟨ro1, hl.disk.ch h2.ch (fun b ho hM => by subst hM; exact ho hrb), h2.ref, hrb, hl.sub, (hl.ch.weak fun _ _ h => .inl h).trans h2.ch fun _ _ h => .inr h⟩
/-- The disk's call at any world that keeps what stood. -/
theorem Mid.calls {W w' : World} {base db : Nat} {ro : Nat → Role} {S S1 : St} {r : Value} {f : FuncId} {args : Array Value} (hd : DiskAt W base db ro S) (hk : KeepW W W.heap.size w') (hc : DiskAt w' base db ro S → Calls Try.prog f args w' (DoneR w' base db ro S1 r)) : Calls Try.prog f args w' fun e w2 => e = .returned r ∧ Mid W base db ro S1 w2 :=
  (hc (hd.below hk.1)).mono fun _ _ ⟨he, ro1, hl⟩ => ⟨he, ro1, (Left.below hd hk.1).trans hl⟩
theorem Fin2.calls {W w' : World} {base db rbase rb : Nat} {G : Nat → Prop} {ro : Nat → Role} {S S1 : St} {r : Value} {f : FuncId} {args : Array Value} (hr : RefAt W rbase (Pg ro G) rb S) (hrb : ro rb = .none) (hm : Mid W base db ro S1 w') (hG : ∀ b, W.heap.size ≤ b → ¬ G b)
    (hc : ∀ P : Nat → Prop, RefAt w' rbase P rb S → (∀ b, w'.heap.size ≤ b → P b) → Calls Try.prog f args w' (RDone w' rbase P rb S1 r)) : Calls Try.prog f args w' fun e w2 => e = .returned r ∧ Fin2 W base db rbase rb G ro S1 w2 := by
  obtain ⟨ro1, hl⟩ := hm
  obtain ⟨h1, h2⟩ := Mid.ref hr hrb hl
  refine (hc (Pg ro1 G) h1 (fun b hb => ⟨free_new hl.disk hb, hG b (Nat.le_trans hl.ch.size hb)⟩)).mono fun e w2 ⟨he, hlr⟩ => ⟨he, Mid.fin hl h2 hlr⟩
end Go.Proofs.Ytfgbaigpmhnoaaa

/- disk: does, what stands ahead of and behind its call. -/
namespace Go.Proofs.Ytfgbaigpmhnoaaa
open Go.RowKit Go.BigFrame Go.Maps
open Dsk (Fl St Ok get put drop used)

def DoesPost (w : World) (base db rbase rb : Nat) (G : Nat → Prop) (ro : Nat → Role) (S : St) (m : Nat) (e : Ending) (w' : World) : Prop :=
  e = .returned (.bool true) ∧ ∃ S', (S'.steps ≤ S.steps + 1 ∧ used S'.fs ≤ used S.fs + m) ∧ Fin2 w base db rbase rb G ro S' w'
/-- What does a call when it begins. -/
structure DoesIn (w : World) (base db rbase rb : Nat) (G : Nat → Prop) (ro : Nat → Role) (S : St) (A A2 : Option Addr) (l : List Nat) (ks : List Int) (c : Nat) : Prop where
  disk : DiskAt w base db ro S
  ref : RefAt w rbase (Pg ro G) rb S
  rbn : ro rb = .none
  size : base ≤ w.heap.size
  bytes : BAt w (fun b => ro b = .none ∧ b ≠ rb) (.slice A l.length c) l
  low : ∀ x ∈ l, x < 256
  ints : IntsAt w (fun b => ro b = .none ∧ b ≠ rb) A2 ks
  few : ks.length ≤ 1000000000
  steps : S.steps < 1000000000
  sum : used S.fs + l.length ≤ 1000000000000
  new : ∀ b, w.heap.size ≤ b → ¬ G b
theorem DoesIn.ok {w : World} {base db rbase rb : Nat} {G : Nat → Prop} {ro : Nat → Role} {S : St} {A A2 : Option Addr} {l : List Nat} {ks : List Int} {c : Nat} (h : DoesIn w base db rbase rb G ro S A A2 l ks c) : Ok S := by
  obtain ⟨_, _, _, _, h⟩ := h.disk
  exact h.ok
/-- The same, when what is handed in was copied into a row of its own (block g; the call's box is block bx). -/
structure DoesAt (w W1 : World) (base db rbase rb : Nat) (G : Nat → Prop) (ro : Nat → Role) (S : St) (A A2 : Option Addr) (l : List Nat) (ks : List Int) (c bx g : Nat) (box : Array Value) : Prop where
  did : DoesIn W1 base db rbase rb (fun b => G b ∨ b = g) ro S A A2 l ks c
  row : MRow W1 g l
  blk : W1.heap[bx]? = some (.cells box 32 (0, 0))
  below : Below w.heap.size w W1
  gl : w.heap.size ≤ g
  bl : w.heap.size ≤ bx
  ne : bx ≠ g
  gn : ro g = .none
  bn : ro bx = .none
  rl : rb < w.heap.size
theorem DoesIn.start {w W1 : World} {base db rbase rb : Nat} {G : Nat → Prop} {ro : Nat → Role} {S : St} {A A2 : Option Addr} {l : List Nat} {ks : List Int} {c g bx : Nat} {box : Array Value} (h : DoesIn w base db rbase rb G ro S A A2 l ks c) (hb : Below w.heap.size w W1) (hrow : MRow W1 g l)
    (hblk : W1.heap[bx]? = some (.cells box 32 (0, 0))) (hg : w.heap.size ≤ g) (hx : w.heap.size ≤ bx) (hne : bx ≠ g) : DoesAt w W1 base db rbase rb G ro S A A2 l ks c bx g box := by
  refine ⟨⟨h.disk.below hb, (h.ref.mono (P' := Pg ro fun b => G b ∨ b = g) fun b hl hp _ => ⟨hp.1, fun e => e.elim hp.2 (fun e => by omega)⟩).below hb, h.rbn, Nat.le_trans h.size hb.size, ?_, h.low, h.ints.below hb, h.few, h.steps, h.sum, fun b hb2 e => e.elim (h.new b (Nat.le_trans hb.size hb2)) (fun e => by have := hrow.lt; omega)⟩, hrow, hblk, hb, hg, hx, hne, free_new h.disk hg, free_new h.disk hx, h.ref.lt.1⟩
  exact h.bytes.ch (Ch.of_below hb (fun b => w.heap.size ≤ b) fun _ _ hk => hk) fun b hl _ hM => by omega
theorem DoesAt.ext {w W1 w' : World} {base db rbase rb : Nat} {G : Nat → Prop} {ro : Nat → Role} {S : St} {A A2 : Option Addr} {l : List Nat} {ks : List Int} {c bx g : Nat} {box : Array Value} (h : DoesAt w W1 base db rbase rb G ro S A A2 l ks c bx g box) (hc : Ch W1 w' (fun b => Own ro b ∨ b = rb)) :
    w'.heap[bx]? = some (.cells box 32 (0, 0)) ∧ MRow w' g l ∧ BAt w' (fun b => ro b = .none ∧ b ≠ rb) (.slice A l.length c) l := by
  have h1 := h.rl
  have h2 := h.gl
  have h3 := h.bl
  exact ⟨hc.heap h.blk (fun e => e.elim (fun e => e h.bn) (fun e => by omega)), h.row.ch hc (fun e => e.elim (fun e => e h.gn) (fun e => by omega)), h.did.bytes.ch hc fun b _ hq e => e.elim (fun e => e hq.1) hq.2⟩
theorem DoesAt.fin {w W1 w5 wr : World} {base db rbase rb : Nat} {G : Nat → Prop} {ro : Nat → Role} {S S1 : St} {A A2 : Option Addr} {l : List Nat} {ks : List Int} {c bx g : Nat} {box : Array Value} (h : DoesAt w W1 base db rbase rb G ro S A A2 l ks c bx g box)
    (hf : Fin2 W1 base db rbase rb (fun b => G b ∨ b = g) ro S1 w5) (hc : Ch w5 wr (fun b => b = g)) (hd : DiskAt w base db ro S) : Fin2 w base db rbase rb G ro S1 wr := by
  obtain ⟨ro1, h1, h2, h3, h4, h5⟩ := hf
  have hgn := h.gn
  have hgl := h.gl
  have hrl := h.rl
  have hg1 : ro1 g = .none := sub_none h4 h.row.lt hgn
  refine ⟨ro1, h1.ch hc (fun b ho e => by subst e; exact ho hg1), (h2.ch hc (by omega) (fun b _ hp _ e => hp.2 (.inr e))).mono fun b _ hp _ => ⟨hp.1, fun e => hp.2 (.inl e)⟩, h3, fun b hb ho => h4 b (Nat.lt_of_lt_of_le hb h.below.size) ho, ?_⟩
  have c1 : Ch w W1 (fun b => Own ro b ∨ b = rb) := Ch.of_below h.below _ fun k hk hge => by omega
  exact ((c1.trans h5 (fun _ _ hk => hk)).weak (fun _ _ hk => (.inl hk : (Own ro _ ∨ _ = rb) ∨ _ = g))).trans hc (fun _ _ hk => .inr hk) |>.new hgl
theorem box_cells {w : World} {bx : Nat} {v0 v1 v2 v3 v4 v5 : Value} {T : TypeId} (h : w.heap[bx]? = some (.cells #[v0, v1, v2, v3, v4, v5] T (0, 0))) :
    w.cell? ⟨bx, 0, none⟩ = some v0 ∧ w.cell? ⟨bx, 1, none⟩ = some v1 ∧ w.cell? ⟨bx, 2, none⟩ = some v2 ∧ w.cell? ⟨bx, 3, none⟩ = some v3 ∧ w.cell? ⟨bx, 4, none⟩ = some v4 ∧ w.cell? ⟨bx, 5, none⟩ = some v5 := by
  refine ⟨?_, ?_, ?_, ?_, ?_, ?_⟩ <;> · rw [blk_cell h]; rfl
end Go.Proofs.Ytfgbaigpmhnoaaa

/- disk: steps and bytes behind a call (maths). -/
namespace Go.Proofs.Ytfgbaigpmhnoaaa
open Go.RowKit Go.BigFrame Go.Maps
open Dsk (Fl St Ok get put drop used)

theorem stepEnd_up {S S2 : St} {b : Bool} (h1 : S2.steps = S.steps + 1) (X : Nat) (h2 : used S2.fs ≤ X) (h3 : used S.fs ≤ X) : (stepEnd S S2 b).steps ≤ S.steps + 1 ∧ used (stepEnd S S2 b).fs ≤ X := by
  unfold stepEnd
  split
  · exact ⟨Nat.le_refl _, h3⟩
  · unfold stepS
    split
    · exact ⟨by omega, h2⟩
    · exact ⟨by show S2.steps ≤ _; omega, h2⟩
    · exact ⟨by show S2.steps ≤ _; omega, h2⟩
theorem put_up {S : St} (h : Ok S) (s : ByteArray) (f g : Fl) (hg : get S.fs s = some g) (hf : f.b.length ≤ g.b.length) : used (put S.fs s f) ≤ used S.fs := by
  have := Dsk.used_put S.fs s f h.sorted
  rw [hg] at this
  simp only [Dsk.lenO] at this
  omega
theorem append_up {S : St} (h : Ok S) (s : ByteArray) (l : List Nat) : (appendS S s l).steps ≤ S.steps + 1 ∧ used (appendS S s l).fs ≤ used S.fs + l.length := by
  unfold appendS
  split
  · exact ⟨by omega, by omega⟩
  · split
    · exact ⟨by omega, by omega⟩
    · split
      · exact ⟨by omega, by omega⟩
      · unfold appS
        refine stepEnd_up rfl _ ?_ (by omega)
        have := Dsk.used_put S.fs s (grow1 (getF S.fs s) l) h.sorted
        have e : (grow1 (getF S.fs s) l).b.length = Dsk.lenO (get S.fs s) + l.length := by
          unfold grow1 getF
          cases hg : get S.fs s with
          | none => simp [Dsk.lenO, noFl]
          | some f => simp [Dsk.lenO]
        show used (put S.fs s (grow1 (getF S.fs s) l)) ≤ _
        omega
theorem sync_up {S : St} (h : Ok S) (s : ByteArray) : (syncS S s).steps ≤ S.steps + 1 ∧ used (syncS S s).fs ≤ used S.fs := by
  unfold syncS
  split
  · exact ⟨by omega, by omega⟩
  · cases hg : get S.fs s with
    | none => exact ⟨by show S.steps ≤ _; omega, Nat.le_refl _⟩
    | some f => exact stepEnd_up rfl _ (put_up h s _ f hg (Nat.le_refl _)) (Nat.le_refl _)
theorem cut_up {S : St} (h : Ok S) (s : ByteArray) (k : Int) : (cutS S s k).steps ≤ S.steps + 1 ∧ used (cutS S s k).fs ≤ used S.fs := by
  unfold cutS
  split
  · exact ⟨by omega, by omega⟩
  · cases hg : get S.fs s with
    | none => exact ⟨by show S.steps ≤ _; omega, Nat.le_refl _⟩
    | some f =>
      dsimp only
      split
      · exact ⟨by omega, by omega⟩
      · exact stepEnd_up rfl _ (put_up h s _ f hg (by unfold cutF; simp only [List.length_take]; omega)) (Nat.le_refl _)
theorem remove_up {S : St} (h : Ok S) (s : ByteArray) : (removeS S s).steps ≤ S.steps + 1 ∧ used (removeS S s).fs ≤ used S.fs := by
  unfold removeS
  split
  · exact ⟨by omega, by omega⟩
  · cases hg : get S.fs s with
    | none => exact ⟨by show S.steps ≤ _; omega, Nat.le_refl _⟩
    | some f => exact stepEnd_up rfl _ (by have := Dsk.used_drop S.fs s; show used (drop S.fs s) ≤ _; omega) (Nat.le_refl _)
theorem rename_up {S : St} (h : Ok S) (s t : ByteArray) : (renameS S s t).steps ≤ S.steps + 1 ∧ used (renameS S s t).fs ≤ used S.fs := by
  unfold renameS
  split
  · exact ⟨by omega, by omega⟩
  · cases hg : get S.fs s with
    | none => exact ⟨by show S.steps ≤ _; omega, Nat.le_refl _⟩
    | some f =>
      refine stepEnd_up rfl _ ?_ (Nat.le_refl _)
      show used (renFs S.fs s t f) ≤ _
      rw [← ren_eq h.sorted]
      have h1 := Dsk.used_put (drop S.fs s) t (settleF f) (Dsk.Sorted.drop _ _ h.sorted)
      have h2 := Dsk.used_drop S.fs s
      rw [hg] at h2
      simp only [Dsk.lenO] at h2
      have h3 : (settleF f).b.length = f.b.length := rfl
      omega
theorem recAll_up (ks : List Int) : ∀ (fs : Dsk.FS) (i : Nat), (∀ p ∈ fs, p.2.sure ≤ p.2.b.length) → used (recAll ks i fs) ≤ used fs
  | [], _, _ => by simp [recAll]
  | (s, f) :: r, i, h => by
    have h1 := h (s, f) (by simp)
    have h2 := recAll_up ks r (i + 1) fun p hp => h p (by simp [hp])
    have h3 := recF_len f (ks.getD i 0) h1
    unfold recAll
    split
    · simp only [Dsk.used]; omega
    · simp only [Dsk.used]; omega
theorem on_up {S : St} (h : Ok S) (ks : List Int) : (onS S ks).steps = S.steps ∧ used (onS S ks).fs ≤ used S.fs := by
  unfold onS
  split
  · exact ⟨rfl, recAll_up ks S.fs 0 fun p hp => (h.file p.1 p.2 (Dsk.mem_get h.sorted hp)).1⟩
  · exact ⟨rfl, Nat.le_refl _⟩
theorem readB_low {S : St} (h : Ok S) (s : ByteArray) : ∀ x ∈ readB S s, x < 256 := by
  unfold readB
  split
  · intro x hx; simp at hx
  · unfold getF
    cases hg : get S.fs s with
    | none => intro x hx; simp [noFl] at hx
    | some f => exact (h.file s f hg).2.1
theorem IntsAt.weak {w : World} {Q Q' : Nat → Prop} {A : Option Addr} {ks : List Int} (h : IntsAt w Q A ks) (hq : ∀ b, Q b → Q' b) : IntsAt w Q' A ks := fun j hj => by
  obtain ⟨ad, e, h1, h2⟩ := h j hj
  exact ⟨ad, e, hq _ h1, h2⟩
end Go.Proofs.Ytfgbaigpmhnoaaa
