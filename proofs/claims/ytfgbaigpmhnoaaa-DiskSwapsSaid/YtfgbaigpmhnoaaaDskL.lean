/- disk: Names. -/
import Derived.Test.YtfgbaigpmhnoaaaDskK
import Derived.Maps.RangeWalk
import Derived.Maps.Range
import Derived.Sort.KeysCollected
set_option linter.unusedVariables false
set_option linter.unusedSimpArgs false
namespace Go.Proofs.Ytfgbaigpmhnoaaa
open Go.RowKit Go.BigFrame Go.Maps
open Dsk (Fl St Ok get put drop used)

theorem infoStr : (Try.prog.info? 9).map (fun i => (i.zero, i.size, i.bytes)) = some (some (.string ⟨#[]⟩), 1, 16) := by kernel_rfl
theorem cell_one_at (w : World) (v : Value) (T : TypeId) : ∀ (j : Nat) (u : Value), [v][j]? = some u → (w.alloc (.cells #[v] T)).cell? ((⟨w.heap.size, 0, none⟩ : Addr).add j) = some u := by
  intro j u hj
  obtain ⟨rfl, rfl⟩ : j = 0 ∧ v = u := by
    cases j with
    | zero => simpa using hj
    | succ j => simp at hj
  have e : (⟨w.heap.size, 0, none⟩ : Addr).add 0 = ⟨w.heap.size, 0, none⟩ := rfl
  rw [e, World.cell?_alloc_new]; rfl
theorem encStr_bytes (s : ByteArray) : encStr s.data.toList = .string s := by simp [encStr]
theorem encL_len (l : List (List UInt8)) : (encL l).length = l.length := by simp [encL]
theorem encL_snoc (l : List (List UInt8)) (s : ByteArray) : encL (l ++ [s.data.toList]) = encL l ++ [.string s] := by
  unfold encL; rw [List.map_append]; congr 1
theorem own_down {w : World} {base base' size n : Nat} {e : TypeId} {v : Value} {xs : List Value} (h : w.ownsRow base e size v n xs) (hb : base' ≤ base) : w.ownsRow base' e size v n xs := by
  rcases h with ⟨h1, h2 | ⟨g, cap, cur, h2, h3, h4⟩⟩
  · exact ⟨h1, .inl h2⟩
  · exact ⟨h1, .inr ⟨g, cap, cur, h2, Nat.le_trans hb h3, h4⟩⟩
theorem names_len (fs : Dsk.FS) : (Dsk.names fs).length = fs.length := by simp [Dsk.names]
theorem DiskIn.collected {w : World} {base db mb n : Nat} {D : DataW Unit} {av : Value} {ro : Nat → Role} {S : St} (h : DiskIn w base db mb n D av ro S) {left : Lit → Bool} {ss : List (List UInt8)} (hc : Collected D left ss) (hl : ∀ kl, left kl = false) : ss.mergeSort leB = Dsk.names S.fs ∧ ss.length = (Dsk.names S.fs).length := by
  have hp : ss.Perm (Dsk.names S.fs) := (List.perm_ext_iff_of_nodup hc.1 (Dsk.names_nodup h.ok.sorted)).2 fun x => by
    rw [hc.2 x, Dsk.mem_names, hl]
    have := h.has ⟨x.toArray⟩
    unfold kS at this
    rw [show (Lit.string x) = Lit.string (ByteArray.mk x.toArray).data.toList from by simp, this]
    simp
  exact ⟨(mergeSort_of_perm hp).trans (Dsk.names_sort h.ok.sorted), hp.length_eq⟩
def NamesPost (w : World) (S : St) (e : Ending) (w' : World) : Prop := Below w.heap.size w w' ∧ ∃ v', e = .returned v' ∧ w'.ownsRow w.heap.size 9 1 v' (Dsk.names S.fs).length (encL (Dsk.names S.fs))
set_option maxRecDepth 100000 in
set_option maxHeartbeats 1600000 in
theorem names_any (w : World) (base db : Nat) (ro : Nat → Role) (S : St) (h : DiskAt w base db ro S) : Calls Try.prog 23 #[.pointer (some ⟨db, 0, none⟩)] w (NamesPost w S) := by
  obtain ⟨i0, hi, hz0, hz1, hz2⟩ := info_parts infoStr
  have HI := Lib.hid (And.intro hi (And.intro hz0 (And.intro hz1 hz2)))
  clear hi hz0 hz1 hz2
  obtain ⟨mb, n, D, av, hd⟩ := h
  have HP := Lib.hid (fun (v' : Value) (w' : World) (hb : Below w.heap.size w w') (ho : w'.ownsRow w.heap.size 9 1 v' (Dsk.names S.fs).length (encL (Dsk.names S.fs))) => show NamesPost w S (.returned v') w' from ⟨hb, v', rfl, ho⟩)
  generalize NamesPost w S = post at *
  have hn := hd.bnd
  have hst := hd.ok.low
  have hown := hd.own
  have hD := hown.size_le
  have cm : w.cell? ⟨db, 1, none⟩ = some (.map (some mb)) := by rw [blk_cell hd.blk]; rfl
  have HD := Lib.hid hd
  have hmbl := hown.lt
  clear hd
  go_enter Try.func23, Try.ntmps23
  go_wp2_with (at_range; refine wpList_range_own _ rfl _ 55 rfl 9 62 keyStr Try.underlying55 ptrElem mb n D rfl hown ?_; intro w0 hrg0 hg0 hs0)
  go_frame
  go_loopw [3, 4] (fun lv _ wr => ∃ (left : Lit → Bool) (cnt : Nat) (ss : List (List UInt8)), Hid (wr.ranges Try.prog 9 ptrElem mb w.heap.size n D left cnt) ∧ Hid (Collected D left ss) ∧ ss.length + cnt ≤ Maps.size D ∧ Hid (wr.ownsRow (w.heap.size + 1) 9 1 lv ss.length (encL ss)) ∧ Hid (Below w.heap.size w wr) ∧ w.heap.size + 1 ≤ wr.heap.size) (fun _ _ wr => wr.rangeLeft mb w.heap.size)
  case atStart =>
    exact ⟨_, _, [], Lib.hid hrg0, Lib.hid (Collected.start D), by simp, Lib.hid (World.ownsRow_nil _ _ _ _), Lib.hid ((Below.refl _ _).grown hg0 (Nat.le_refl _) (fun k e => by cases e)), by omega⟩
  case round =>
    obtain ⟨left, cnt, ss, HR, HC, hlen, HO, HB, hws⟩ := hrel
    have hrg := HR.out
    clear hrg0 hg0
    go_wp2_with (at_next; refine wpList_next_ranges _ rfl _ rfl 9 keyStr ptrElem Value.string Value.pointer (fun key kl hkey => by obtain ⟨x, rfl, _⟩ := Maps.keyOf_str Try.underlying9 hkey; exact ⟨⟨x.toArray⟩, by simp [encStr]⟩) (fun v y hv => by rcases ptrElem_inv hv with ⟨b, rfl, _⟩ | ⟨rfl, _⟩ <;> exact ⟨_, rfl⟩) mb w.heap.size n D left cnt rfl hrg ?_ ?_)
    · intro hc0 hl0
      obtain ⟨hsort, hle⟩ := HD.out.collected HC.out hl0
      have hlow := HD.out.ok.few
      rw [names_len] at hle
      have HO1 := Lib.hid (sortT ss _ _ wr HO.out (by omega))
      have HS := Lib.hid hsort
      have HLE := Lib.hid hle
      clear hsort hle hrg HR HC
      go_wp2_with fail
      refine HO1.out.mono ?_
      rintro e w1 ⟨rfl, ho, hch⟩
      have hsl := own_sl ho
      have HQ := Lib.hid (HP.out _ w1 (HB.out.trans (hch.below (B := w.heap.size) (by omega) (fun k hk => by have := (HO.out.lt k hk).1; omega))) (by rw [HS.out, HLE.out] at ho; rw [names_len]; exact own_down ho (by omega)))
      clear ho hch HO HB HP HO1
      obtain ⟨Al, capl, rfl⟩ := hsl
      go_wp2
      exact HQ.out
    · intro x c kl yd yp w1 cnt1 hkey hlx hv hat hrg1 hlt hg1 hs1 hen
      obtain ⟨x', hx1, rfl, _⟩ := Maps.keyOf_str Try.underlying9 hkey
      obtain rfl : x' = x.data.toList := by simp [encStr] at hx1; rw [hx1]
      have HC1 := Lib.hid (HC.out.step hlx hat)
      have HR1 := Lib.hid hrg1
      have hrr := HR.out.left_eq
      have HO0 := Lib.hid (HO.out.kept hg1 (.inr fun e => by have := (HO.out.lt _ e).1; omega))
      have HB0 := Lib.hid (HB.out.grown hg1 (by omega) (fun k e => by cases e; exact Nat.le_refl _))
      obtain ⟨Al, capl, rfl⟩ := own_sl HO.out
      have hsz1 : w.heap.size + 1 ≤ w1.heap.size := by omega
      clear hrg hrg1 hg1 HC HR HO HB hat hkey hv hx1 hs1
      go_wp2_with (at_builtin; go_loud (refine wpList_app rfl _ _ 50 rfl (w.heap.size + 1) 9 i0 (.string ⟨#[]⟩) 16 Try.underlying50 HI.out.1 HI.out.2.1 HI.out.2.2.1 HI.out.2.2.2 rfl _ _ _ rfl (HO0.out.alloc _) ⟨w1.heap.size, 0, none⟩ 1 1 [.string x] rfl rfl (cell_one_at _ _ _) ?h1 ?h63 ?hby ?hba ?_))
      case h1 => simp [Value.oneCell']
      case h63 => unfold maxLen; omega
      case hby => omega
      case hba => simp; omega
      intro v' w2 hown2 hgrow2 _
      have HR2 := Lib.hid ((HR1.out.alloc (.cells #[.string x] 9 (0, 0))).kept hgrow2 (fun e => by have := (HO0.out.lt _ e.symm).1; omega) (fun e => by have := (HO0.out.lt _ e.symm).1; omega))
      have HB2 := Lib.hid ((HB0.out.alloc (by omega) (.cells #[.string x] 9 (0, 0))).grown hgrow2 (by simp; omega) (fun g e => by have := (HO0.out.lt g e).1; omega))
      have hsz2 := hgrow2.size
      have HO2 := Lib.hid (show w2.ownsRow (w.heap.size + 1) 9 1 v' (ss ++ [x.data.toList]).length (encL (ss ++ [x.data.toList])) by rw [encL_snoc, List.length_append]; exact hown2)
      clear HO0 HB0 hgrow2 hown2
      go_wp2
      go_roundw
      case rel => exact ⟨_, cnt1, ss ++ [x.data.toList], HR2, HC1, by rw [List.length_append]; simp; omega, HO2, HB2, by simp at hsz2; omega⟩
      case measure => rw [HR2.out.left_eq, hrr]; exact hlt
end Go.Proofs.Ytfgbaigpmhnoaaa
