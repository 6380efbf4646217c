/- disk: Read; names sorted. -/
import Derived.Test.YtfgbaigpmhnoaaaDskJ
import Derived.Test.YtfgbaigpmhnoaaaShelf
import Derived.Maps.RangeWalk
import Derived.Maps.Range
import Derived.Sort.KeysCollected
set_option linter.unusedVariables false
set_option linter.unusedSimpArgs false
namespace Go.Proofs.Ytfgbaigpmhnoaaa
open Go.RowKit Go.BigFrame Go.Maps
open Dsk (Fl St Ok get put drop used)

theorem holds_own {w : World} {base n cap : Nat} {A : Option Addr} {l : List Nat} (h : w.ownsRow base 5 1 (.slice A n cap) n (bvs l)) (hn : l.length = n) : Holds w w.heap.size A n (fun i => l.getD i 0) := fun h0 => by
  rcases h.2 with ⟨_, e⟩ | ⟨g, cap', cur, e, hg, hgg, h1, h2, h3, h4⟩
  · omega
  · cases e
    refine ⟨_, rfl, block_lt hgg, fun j hj => ?_⟩
    have e : (⟨g, 0, none⟩ : Addr).add j = ⟨g, j, none⟩ := by unfold Addr.add; by_cases h0 : j = 0 <;> simp [h0]
    have hx : (bvs l)[j]? = some (.int .u8 ((l.getD j 0 : Nat) : Int)) := by simp [bvs, List.getD, show j < l.length by omega]
    rw [← h4, List.getElem?_take, if_pos (by omega)] at hx
    rw [e, cell_of_row _ _ _ _ _ _ hgg]
    simpa using hx
theorem bvs_cells (l : List Nat) : cells (fun i => l.getD i 0) l.length = bvs l := by
  apply List.ext_getElem?
  intro j
  by_cases hj : j < l.length
  · simp [cells, bvs, hj, List.getD]
  · simp [cells, bvs, hj]
def readC (S : St) (s : ByteArray) : Int := if refC S [s] ≠ 0 then refC S [s] else match get S.fs s with
  | none => 5
  | some _ => 0
def readB (S : St) (s : ByteArray) : List Nat := if refC S [s] ≠ 0 then [] else (getF S.fs s).b
def ReadPost (w : World) (S : St) (s : ByteArray) (e : Ending) (w' : World) : Prop := Below w.heap.size w w' ∧ ∃ v', e = .returned (.tuple #[v', .int .i64 (readC S s)]) ∧ w'.ownsRow w.heap.size 5 1 v' (readB S s).length (bvs (readB S s))
set_option maxRecDepth 100000 in
set_option maxHeartbeats 1600000 in
theorem read_any (w : World) (base db : Nat) (ro : Nat → Role) (S : St) (s : ByteArray) (h : DiskAt w base db ro S) (hs : s.size ≤ maxLen) : Calls Try.prog 21 #[.pointer (some ⟨db, 0, none⟩), .string s] w (ReadPost w S s) := by
  obtain ⟨i0, hi, hz0, hz1, hz2⟩ := info_parts infoU8
  have HI := Lib.hid (And.intro hi (And.intro hz0 (And.intro hz1 hz2)))
  clear hi hz0 hz1 hz2
  have HP := Lib.hid (fun (c : Int) (v' : Value) (l : List Nat) (w' : World) (hc : c = readC S s) (hl : l = readB S s) (hb : Below w.heap.size w w') (ho : w'.ownsRow w.heap.size 5 1 v' l.length (bvs l)) => show ReadPost w S s (.returned (.tuple #[v', .int .i64 c])) w' from ⟨hb, v', by rw [hc], by rw [← hl]; exact ho⟩)
  generalize ReadPost w S s = post at *
  have hb1 : Below w.heap.size w (w.alloc (.cells #[.string s] 9)) := (Below.refl _ _).alloc (Nat.le_refl _) _
  obtain ⟨mb, n, D, av, hd⟩ := h.below hb1
  have HF := Lib.hid (find_any (w.alloc (.cells #[.string s] 9)) base db mb n D av ro S _ [s] hd (nrow_one w s hs) (by simp))
  unfold FindPost at HF
  have HD := Lib.hid hd
  have HL0 := Lib.hid (fun nq => below_drewN hb1 nq)
  clear hb1 hd h
  go_enter Try.func21, Try.ntmps21
  go_wp2_with fail
  refine HF.out.mono ?_
  rintro e w1 ⟨⟨nq, hw1⟩, hcase⟩
  have HW1 := Lib.hid hw1
  clear hw1
  rcases hcase with ⟨hc, rfl⟩ | ⟨hc, hg, rfl⟩ | ⟨hc, f, fb, v, hg, rfl, hat, hfa⟩
  · have HQ := Lib.hid (HP.out (refC S [s]) (.slice none 0 0) [] w1 (by unfold readC; rw [if_pos hc]) (by unfold readB; rw [if_pos hc]) (HW1.out ▸ HL0.out nq) (World.ownsRow_nil _ _ _ _))
    obtain ⟨cc, hcc⟩ : ∃ cc, cc = refC S [s] := ⟨_, rfl⟩
    rw [← hcc] at HQ hc ⊢
    have hc1 : (cc == 0) = false := by simpa using hc
    have hc2 : (cc != 0) = true := by simpa using hc
    clear hcc HP HF
    go_wp2
    exact HQ.out
  · have hg' : get S.fs s = none := hg
    have HQ := Lib.hid (HP.out 5 (.slice none 0 0) [] w1 (by unfold readC; rw [if_neg (by simpa using hc), hg']) (by unfold readB getF; rw [if_neg (by simpa using hc), hg']; rfl) (HW1.out ▸ HL0.out nq) (World.ownsRow_nil _ _ _ _))
    clear hg hg' hc HP HF
    go_wp2
    exact HQ.out
  · have hg' : get S.fs s = some f := hg
    have hfl := HD.out.ok.file s f hg'
    have hfa1 : FileAt w1 base ro s fb v f := hfa.ch (HW1.out ▸ (Ch.refl _ (fun _ => False)).drewN nq) (fun _ _ h => h)
    obtain ⟨Af, capf, rfl⟩ := own_sl hfa.row
    have cf : w1.cell? ⟨fb, 0, none⟩ = some (.slice Af f.b.length capf) := by rw [blk_cell hfa1.blk]; rfl
    have HO := Lib.hid (holds_own hfa1.row rfl)
    have hbel : Below w.heap.size w w1 := HW1.out ▸ HL0.out nq
    have HBE := Lib.hid hbel
    have hcap : (Af = none → capf = 0) ∧ f.b.length ≤ capf := by
      rcases hfa.row.2 with ⟨e1, e2⟩ | ⟨g, cap', cur, e1, _, _, e3, _⟩
      · simp only [Value.slice.injEq] at e1
        obtain ⟨e3, _, e4⟩ := e1
        exact ⟨fun _ => e4, by omega⟩
      · cases e1; exact ⟨(fun h => by cases h), e3⟩
    have HCAP := Lib.hid hcap
    have hll := hfl.2.2.1
    have hsz := hbel.size
    have HQ := Lib.hid (fun (v' : Value) (w2 : World) (ho : w2.ownsRow w.heap.size 5 1 v' f.b.length (cells (fun i => f.b[i]?.getD 0) f.b.length)) (hg1 : w1.grownBy w2 (Value.slice none 0 0).ownBlock) => HP.out 0 v' f.b w2 (by unfold readC; rw [if_neg (by simpa using hc), hg']) (by unfold readB getF; rw [if_neg (by simpa using hc), hg']; rfl) (HBE.out.grown hg1 hsz (fun g e => by cases e)) (by have e : cells (fun i => f.b[i]?.getD 0) f.b.length = bvs f.b := bvs_cells f.b; rw [e] at ho; exact ho))
    clear hg hg' hc hfl hfa hfa1 hat hbel hcap HP HF
    go_wp2_with (at_builtin; refine wpList_app_holds rfl _ _ 29 rfl w.heap.size 5 i0 Try.underlying29 HI.out.1 HI.out.2.1 HI.out.2.2.1 HI.out.2.2.2 (.slice none 0 0) 0 [] rfl (World.ownsRow_nil _ _ _ _) w1.heap.size Af f.b.length capf (fun i => f.b.getD i 0) rfl HO.out HCAP.out.1 HCAP.out.2 ?b5 ?b6 hsz ?_)
    case b5 => unfold maxLen; omega
    case b6 => omega
    intro v' w2 ho hg1 _
    obtain ⟨A', cap', rfl⟩ := own_sl ho
    have HQ2 := Lib.hid (HQ.out _ w2 ho hg1)
    clear ho hg1 HQ
    go_wp2
    exact HQ2.out
/-- A row of texts, each as the list of its bytes. -/
def encL (l : List (List UInt8)) : List Value := l.map encStr
theorem encL_get (l : List (List UInt8)) (k : Nat) (h : k < l.length) : (encL l)[k]? = some (encStr (l.getD k [])) := by simp [encL, h, List.getD]
def RowT (w : World) (g : Nat) (l : List (List UInt8)) : Prop := ∀ j, j < l.length → w.cell? ⟨g, j, none⟩ = some (encStr (l.getD j [])) ∧ w.frozen? ⟨g, j, none⟩ = false
def BlkG (w : World) (g : Nat) (T : TypeId) (cap : Nat) : Prop := ∃ cur, w.heap[g]? = some (.cells cur T (0, 0)) ∧ cur.size = cap
theorem blk_putRow {α : Type} [Inhabited α] (enc : α → Value) {w : World} {g : Nat} {T : TypeId} {cap : Nat} (off : Nat) (d : Array α) (h : BlkG w g T cap) : BlkG (Go.Sort.putRow enc w g off d) g T cap := by
  obtain ⟨cur, h1, h2⟩ := h
  refine ⟨Go.Sort.putCells enc off d cur, ?_, by simp [Go.Sort.putCells, h2]⟩
  show (w.heap.modify g _)[g]? = _
  rw [Array.getElem?_modify, if_pos rfl, h1]; rfl
theorem ownT_of {w : World} {g base cap : Nat} {T : TypeId} {l : List (List UInt8)} (hr : RowT w g l) (hb : BlkG w g T cap) (hc : l.length ≤ cap) (hm : cap ≤ maxLen) (hg : base ≤ g) : w.ownsRow base T 1 (.slice (some ⟨g, 0, none⟩) l.length cap) l.length (encL l) := by
  obtain ⟨cur, h1, h2⟩ := hb
  refine ⟨by simp [encL], .inr ⟨g, cap, cur, rfl, hg, h1, hc, hm, by omega, ?_⟩⟩
  apply List.ext_getElem?
  intro j
  rw [Nat.mul_one, List.getElem?_take]
  by_cases hj : j < l.length
  · rw [if_pos hj, encL_get l j hj]
    have := (hr j hj).1
    rw [cell_of_row _ _ _ _ _ _ h1] at this
    simpa using this
  · rw [if_neg hj]; simp [encL, hj]
def SortT (l : List (List UInt8)) (v : Value) (base : Nat) (w : World) (e : Ending) (w' : World) : Prop :=
  e = .returned (.tuple #[]) ∧ w'.ownsRow base 9 1 v l.length (encL (l.mergeSort leB)) ∧ Ch w w' (fun k => v.ownBlock = some k)
theorem sortT (l : List (List UInt8)) (v : Value) (base : Nat) (w : World) (h : w.ownsRow base 9 1 v l.length (encL l)) (hn : l.length ≤ 1000000000) : Calls Try.prog 47 #[v] w (SortT l v base w) := by
  rcases h.2 with ⟨e1, e2⟩ | ⟨g, cap, cur, e1, hg, hgg, hnc, hcm, hcs, _⟩
  · obtain rfl : l = [] := List.eq_nil_of_length_eq_zero e2
    subst e1
    refine (Try.slices_Sort_string_none none 0 w).mono ?_
    rintro e w' ⟨rfl, rfl⟩
    exact ⟨rfl, by simpa using h, Ch.refl _ _⟩
  · subst e1
    have hr : RowT w g l := fun j hj => ⟨by rw [h.cellAt j (by omega)]; exact encL_get l j hj, h.frozenAt j⟩
    have hgl := block_lt hgg
    have hH : Go.Sort.Holds encStr w g 0 l.toArray := by
      intro j hj
      have hj' : j < l.length := by simpa using hj
      rw [Nat.zero_add, getElem!_pos l.toArray j hj]
      refine ⟨?_, (hr j hj').2⟩
      rw [(hr j hj').1]
      simp [List.getD, hj']
    refine (Try.slices_Sort_string g 0 cap l w hH hgl (by omega)).mono ?_
    rintro e w' ⟨rfl, n, os, rfl⟩
    have hsd : (l.mergeSort fun x y => decide (x ≤ y)) = l.mergeSort leB := rfl
    rw [hsd]
    obtain ⟨s, hs⟩ : ∃ s, s = l.mergeSort leB := ⟨_, rfl⟩
    have hsl : s.length = l.length := by rw [hs, List.length_mergeSort]
    rw [← hs]
    have hsz : s.toArray.size = l.toArray.size := by simp [hsl]
    have hgs : (Go.Sort.putRow encStr (Go.Sort.ahead w n) g 0 s.toArray).heap.size = w.heap.size := by rw [Go.Sort.size_putRow]; rfl
    have hHW := Go.Sort.holds_grow encStr _ os g 0 s.toArray (by rw [hgs]; exact hgl) (Go.Sort.holds_putRow encStr (Go.Sort.ahead w n) g 0 l.toArray s.toArray (Go.Sort.holds_ahead _ w n g 0 _ hH) hsz)
    have hrow : RowT (Go.Sort.grow (Go.Sort.putRow encStr (Go.Sort.ahead w n) g 0 s.toArray) os) g s := fun j hj => by
      have hj2 : j < s.toArray.size := by simpa using hj
      have := hHW j hj2
      rw [Nat.zero_add, getElem!_pos _ j hj2] at this
      refine ⟨?_, this.2⟩
      rw [this.1]
      simp [List.getD, hj]
    have hblk : BlkG (Go.Sort.grow (Go.Sort.putRow encStr (Go.Sort.ahead w n) g 0 s.toArray) os) g 9 cap := by
      obtain ⟨cur2, h1, h2⟩ := blk_putRow (w := Go.Sort.ahead w n) encStr 0 s.toArray (⟨cur, hgg, by omega⟩ : BlkG w g 9 cap)
      refine ⟨cur2, ?_, h2⟩
      rw [Go.Sort.heap_grow_old _ _ (by rw [hgs]; exact hgl)]
      exact h1
    refine ⟨rfl, ?_, ⟨rfl, rfl, rfl, by rw [Go.Sort.size_grow, hgs]; omega, fun b hb hbg => ?_⟩⟩
    · have := ownT_of hrow hblk (by rw [hsl]; exact hnc) hcm hg
      rw [hsl] at this
      rw [← hs]
      exact this
    · have hne : b ≠ g := fun e => hbg (by rw [e]; rfl)
      rw [Go.Sort.heap_grow_old _ _ (by rw [hgs]; exact hb)]
      show ((Go.Sort.ahead w n).heap.modify g _)[b]? = _
      rw [Array.getElem?_modify, if_neg (by omega)]
      rfl
end Go.Proofs.Ytfgbaigpmhnoaaa

/- disk: Names. -/
namespace Go.Proofs.Ytfgbaigpmhnoaaa
open Go.RowKit Go.BigFrame Go.Maps
open Dsk (Fl St Ok get put drop used)

theorem infoStr : (Try.prog.info? 9).map (fun i => (i.zero, i.size, i.bytes)) = some (some (.string ⟨#[]⟩), 1, 16) := by kernel_rfl
theorem cell_one_at (w : World) (v : Value) (T : TypeId) : ∀ (j : Nat) (u : Value), [v][j]? = some u → (w.alloc (.cells #[v] T)).cell? ((⟨w.heap.size, 0, none⟩ : Addr).add j) = some u := by
  intro j u hj
  obtain ⟨rfl, rfl⟩ : j = 0 ∧ v = u := by
    cases j with
    | zero => simpa using hj
    | succ j => simp at hj
  have e : (⟨w.heap.size, 0, none⟩ : Addr).add 0 = ⟨w.heap.size, 0, none⟩ := rfl
  rw [e, World.cell?_alloc_new]; rfl
theorem encStr_bytes (s : ByteArray) : encStr s.data.toList = .string s := by simp [encStr]
theorem encL_len (l : List (List UInt8)) : (encL l).length = l.length := by simp [encL]
theorem encL_snoc (l : List (List UInt8)) (s : ByteArray) : encL (l ++ [s.data.toList]) = encL l ++ [.string s] := by
  unfold encL; rw [List.map_append]; congr 1
theorem own_down {w : World} {base base' size n : Nat} {e : TypeId} {v : Value} {xs : List Value} (h : w.ownsRow base e size v n xs) (hb : base' ≤ base) : w.ownsRow base' e size v n xs := by
  rcases h with ⟨h1, h2 | ⟨g, cap, cur, h2, h3, h4⟩⟩
  · exact ⟨h1, .inl h2⟩
  · exact ⟨h1, .inr ⟨g, cap, cur, h2, Nat.le_trans hb h3, h4⟩⟩
theorem names_len (fs : Dsk.FS) : (Dsk.names fs).length = fs.length := by simp [Dsk.names]
theorem DiskIn.collected {w : World} {base db mb n : Nat} {D : DataW Unit} {av : Value} {ro : Nat → Role} {S : St} (h : DiskIn w base db mb n D av ro S) {left : Lit → Bool} {ss : List (List UInt8)} (hc : Collected D left ss) (hl : ∀ kl, left kl = false) : ss.mergeSort leB = Dsk.names S.fs ∧ ss.length = (Dsk.names S.fs).length := by
  have hp : ss.Perm (Dsk.names S.fs) := (List.perm_ext_iff_of_nodup hc.1 (Dsk.names_nodup h.ok.sorted)).2 fun x => by
    rw [hc.2 x, Dsk.mem_names, hl]
    have := h.has ⟨x.toArray⟩
    unfold kS at this
    rw [show (Lit.string x) = Lit.string (ByteArray.mk x.toArray).data.toList from by simp, this]
    simp
  exact ⟨(mergeSort_of_perm hp).trans (Dsk.names_sort h.ok.sorted), hp.length_eq⟩
def NamesPost (w : World) (S : St) (e : Ending) (w' : World) : Prop := Below w.heap.size w w' ∧ ∃ v', e = .returned v' ∧ w'.ownsRow w.heap.size 9 1 v' (Dsk.names S.fs).length (encL (Dsk.names S.fs))
set_option maxRecDepth 100000 in
set_option maxHeartbeats 1600000 in
theorem names_any (w : World) (base db : Nat) (ro : Nat → Role) (S : St) (h : DiskAt w base db ro S) : Calls Try.prog 23 #[.pointer (some ⟨db, 0, none⟩)] w (NamesPost w S) := by
  obtain ⟨i0, hi, hz0, hz1, hz2⟩ := info_parts infoStr
  have HI := Lib.hid (And.intro hi (And.intro hz0 (And.intro hz1 hz2)))
  clear hi hz0 hz1 hz2
  obtain ⟨mb, n, D, av, hd⟩ := h
  have HP := Lib.hid (fun (v' : Value) (w' : World) (hb : Below w.heap.size w w') (ho : w'.ownsRow w.heap.size 9 1 v' (Dsk.names S.fs).length (encL (Dsk.names S.fs))) => show NamesPost w S (.returned v') w' from ⟨hb, v', rfl, ho⟩)
  generalize NamesPost w S = post at *
  have hn := hd.bnd
  have hst := hd.ok.low
  have hown := hd.own
  have hD := hown.size_le
  have cm : w.cell? ⟨db, 1, none⟩ = some (.map (some mb)) := by rw [blk_cell hd.blk]; rfl
  have HD := Lib.hid hd
  have hmbl := hown.lt
  clear hd
  go_enter Try.func23, Try.ntmps23
  go_wp2_with (at_range; refine wpList_range_own _ rfl _ 55 rfl 9 62 keyStr Try.underlying55 ptrElem mb n D rfl hown ?_; intro w0 hrg0 hg0 hs0)
  go_frame
  go_loopw [3, 4] (fun lv _ wr => ∃ (left : Lit → Bool) (cnt : Nat) (ss : List (List UInt8)), Hid (wr.ranges Try.prog 9 ptrElem mb w.heap.size n D left cnt) ∧ Hid (Collected D left ss) ∧ ss.length + cnt ≤ Maps.size D ∧ Hid (wr.ownsRow (w.heap.size + 1) 9 1 lv ss.length (encL ss)) ∧ Hid (Below w.heap.size w wr) ∧ w.heap.size + 1 ≤ wr.heap.size) (fun _ _ wr => wr.rangeLeft mb w.heap.size)
  case atStart =>
    exact ⟨_, _, [], Lib.hid hrg0, Lib.hid (Collected.start D), by simp, Lib.hid (World.ownsRow_nil _ _ _ _), Lib.hid ((Below.refl _ _).grown hg0 (Nat.le_refl _) (fun k e => by cases e)), by omega⟩
  case round =>
    obtain ⟨left, cnt, ss, HR, HC, hlen, HO, HB, hws⟩ := hrel
    have hrg := HR.out
    clear hrg0 hg0
    go_wp2_with (at_next; refine wpList_next_ranges _ rfl _ rfl 9 keyStr ptrElem Value.string Value.pointer (fun key kl hkey => by obtain ⟨x, rfl, _⟩ := Maps.keyOf_str Try.underlying9 hkey; exact ⟨⟨x.toArray⟩, by simp [encStr]⟩) (fun v y hv => by rcases ptrElem_inv hv with ⟨b, rfl, _⟩ | ⟨rfl, _⟩ <;> exact ⟨_, rfl⟩) mb w.heap.size n D left cnt rfl hrg ?_ ?_)
    · intro hc0 hl0
      obtain ⟨hsort, hle⟩ := HD.out.collected HC.out hl0
      have hlow := HD.out.ok.few
      rw [names_len] at hle
      have HO1 := Lib.hid (sortT ss _ _ wr HO.out (by omega))
      have HS := Lib.hid hsort
      have HLE := Lib.hid hle
      clear hsort hle hrg HR HC
      go_wp2_with fail
      refine HO1.out.mono ?_
      rintro e w1 ⟨rfl, ho, hch⟩
      have hsl := own_sl ho
      have HQ := Lib.hid (HP.out _ w1 (HB.out.trans (hch.below (B := w.heap.size) (by omega) (fun k hk => by have := (HO.out.lt k hk).1; omega))) (by rw [HS.out, HLE.out] at ho; rw [names_len]; exact own_down ho (by omega)))
      clear ho hch HO HB HP HO1
      obtain ⟨Al, capl, rfl⟩ := hsl
      go_wp2
      exact HQ.out
    · intro x c kl yd yp w1 cnt1 hkey hlx hv hat hrg1 hlt hg1 hs1 hen
      obtain ⟨x', hx1, rfl, _⟩ := Maps.keyOf_str Try.underlying9 hkey
      obtain rfl : x' = x.data.toList := by simp [encStr] at hx1; rw [hx1]
      have HC1 := Lib.hid (HC.out.step hlx hat)
      have HR1 := Lib.hid hrg1
      have hrr := HR.out.left_eq
      have HO0 := Lib.hid (HO.out.kept hg1 (.inr fun e => by have := (HO.out.lt _ e).1; omega))
      have HB0 := Lib.hid (HB.out.grown hg1 (by omega) (fun k e => by cases e; exact Nat.le_refl _))
      obtain ⟨Al, capl, rfl⟩ := own_sl HO.out
      have hsz1 : w.heap.size + 1 ≤ w1.heap.size := by omega
      clear hrg hrg1 hg1 HC HR HO HB hat hkey hv hx1 hs1
      go_wp2_with (at_builtin; go_loud (refine wpList_app rfl _ _ 50 rfl (w.heap.size + 1) 9 i0 (.string ⟨#[]⟩) 16 Try.underlying50 HI.out.1 HI.out.2.1 HI.out.2.2.1 HI.out.2.2.2 rfl _ _ _ rfl (HO0.out.alloc _) ⟨w1.heap.size, 0, none⟩ 1 1 [.string x] rfl rfl (cell_one_at _ _ _) ?h1 ?h63 ?hby ?hba ?_))
      case h1 => simp [Value.oneCell']
      case h63 => unfold maxLen; omega
      case hby => omega
      case hba => simp; omega
      intro v' w2 hown2 hgrow2 _
      have HR2 := Lib.hid ((HR1.out.alloc (.cells #[.string x] 9 (0, 0))).kept hgrow2 (fun e => by have := (HO0.out.lt _ e.symm).1; omega) (fun e => by have := (HO0.out.lt _ e.symm).1; omega))
      have HB2 := Lib.hid ((HB0.out.alloc (by omega) (.cells #[.string x] 9 (0, 0))).grown hgrow2 (by simp; omega) (fun g e => by have := (HO0.out.lt g e).1; omega))
      have hsz2 := hgrow2.size
      have HO2 := Lib.hid (show w2.ownsRow (w.heap.size + 1) 9 1 v' (ss ++ [x.data.toList]).length (encL (ss ++ [x.data.toList])) by rw [encL_snoc, List.length_append]; exact hown2)
      clear HO0 HB0 hgrow2 hown2
      go_wp2
      go_roundw
      case rel => exact ⟨_, cnt1, ss ++ [x.data.toList], HR2, HC1, by rw [List.length_append]; simp; omega, HO2, HB2, by simp at hsz2; omega⟩
      case measure => rw [HR2.out.left_eq, hrr]; exact hlt
end Go.Proofs.Ytfgbaigpmhnoaaa
