/- archive: Put's node closure. -/
import Derived.Test.YtcleebigfbbdbaaArcE
set_option linter.unusedVariables false
set_option linter.unusedSimpArgs false
namespace Go.Proofs.Ytcleebigfbbdbaa
open Go Go.RowKit Go.BigFrame
open Fil (Es Nd Sp)
open Arc (BL num4 num2 encT letK encE encN sizE sizN)

def textFn (gb : Nat) : Value := .func (.func 25) #[] #[.pointer (some ⟨gb, 0, none⟩)]
def nodeFn (gb gt gn : Nat) : Value := .func (.func 26) #[] #[.pointer (some ⟨gb, 0, none⟩), .pointer (some ⟨gt, 0, none⟩), .pointer (some ⟨gn, 0, none⟩)]
/-- The two closures' boxes. -/
def Fns (w : World) (gb gt gn r : Nat) : Prop :=
  w.heap[gt]? = some (.cells #[textFn gb] 46 (0, 0)) ∧ w.heap[gn]? = some (.cells #[nodeFn gb gt gn] 47 (0, 0)) ∧ gt ≠ gb ∧ gt ≠ r ∧ gn ≠ gb ∧ gn ≠ r
theorem Fns.ch {w w' : World} {gb gt gn r : Nat} (h : Fns w gb gt gn r) (hc : Ch w w' (Two gb r)) : Fns w' gb gt gn r :=
  ⟨hc.heap h.1 (fun e => Or.elim e h.2.2.1 h.2.2.2.1), hc.heap h.2.1 (fun e => Or.elim e h.2.2.2.2.1 h.2.2.2.2.2), h.2.2⟩
theorem Fns.alloc {w : World} {gb gt gn r : Nat} (h : Fns w gb gt gn r) (o : Obj) : Fns (w.alloc o) gb gt gn r := h.ch ((Ch.refl w _).alloc o)
theorem Fns.cells {w : World} {gb gt gn r : Nat} (h : Fns w gb gt gn r) : w.cell? ⟨gt, 0, none⟩ = some (textFn gb) ∧ w.cell? ⟨gn, 0, none⟩ = some (nodeFn gb gt gn) := by
  refine ⟨?_, ?_⟩
  · rw [cell_of_row _ _ _ _ _ _ h.1]; rfl
  · rw [cell_of_row _ _ _ _ _ _ h.2.1]; rfl
set_option maxRecDepth 1000000 in
set_option maxRecDepth 100000 in
set_option maxHeartbeats 8000000 in
theorem node1_any : ∀ (m : Nat) (nd : Nd), nd.es.count ≤ m → nd.may = true → nd.es.count ≤ 1000000 → ∀ (w : World) (gb gt gn base r cap : Nat) (l : BL), Bw w gb base r cap l → Fns w gb gt gn r → cap ≤ 1000000000 → l.length + sizN nd ≤ cap → ∀ (B : Nat), B ≤ gb → B ≤ r → ∀ v, NdV w B v nd →
    Calls Try.prog 26 #[v, .pointer (some ⟨gb, 0, none⟩), .pointer (some ⟨gt, 0, none⟩), .pointer (some ⟨gn, 0, none⟩)] w fun e W => e = .returned (.tuple #[]) ∧ BPut w gb base r cap l (encN nd) W := by
  intro m
  induction m using Nat.strongRecOn with
  | ind m ih =>
  intro nd hm hmay hct w gb gt gn base r cap l hbw hfn hcap hroom B hB1 hB2 v hv
  obtain ⟨ev, rfl, hes, hd, hk⟩ := hv
  obtain ⟨A, c, rfl, hlc, hcm⟩ := hes.form
  obtain ⟨i0, hi, hz0, hz1, hz2⟩ := info_parts infoU8e
  have hz4 : i0.size = 1 := hz1
  have HIH := Lib.hid (And.intro ih hm)
  clear ih hm
  have HES := Lib.hid hes
  have HEN := Lib.hid (show encN nd = letK nd.k :: (if nd.k = 4 then num2 nd.es.len ++ encE nd.es else encT nd.d) from rfl)
  have HSN := Lib.hid (show sizN nd = if nd.k = 4 then 3 + sizE nd.es else 5 + nd.d.size from rfl)
  have HLT := Lib.hid hbw.lt
  have hsn5 : 3 ≤ sizN nd := by rw [HSN.out]; split <;> omega
  go_enter Try.func26, Try.ntmps26
  obtain ⟨W0, hW0⟩ : ∃ W0, W0 = w.alloc (.cells #[.int .u8 (nd.k : Int), .string nd.d, .slice A nd.es.len c] 24) := ⟨_, rfl⟩
  have hbw0 : Bw W0 gb base r cap l := by rw [hW0]; exact hbw.alloc _
  have hfn0 : Fns W0 gb gt gn r := by rw [hW0]; exact hfn.alloc _
  have hch0 : Ch w W0 (Two gb r) := by rw [hW0]; exact (Ch.refl w _).alloc _
  have hg0 : W0.heap[w.heap.size]? = some (ndCells nd.k nd.d (.slice A nd.es.len c)) := by rw [hW0]; exact heap_alloc_new _ _
  have hsz0 : W0.heap.size = w.heap.size + 1 := by rw [hW0]; simp
  go_upto_region 1 with (fail)
  rw [← hW0]
  clear hW0 hbw hfn hes
  -- the letter
  obtain ⟨cl, hcl⟩ : ∃ cl, cl = letK nd.k := ⟨_, rfl⟩
  have HLE := Lib.hid (fun w' => letter_any nd.k w')
  rw [← hcl] at HLE
  rw [← hcl] at HEN
  clear hcl
  obtain ⟨hn0, hn1, hn2, _⟩ := nd_box hg0
  obtain ⟨hcb, hfb⟩ := hbw0.cell
  have HA0 := Lib.hid ((hbw0.alloc (.cells #[.int .u8 (cl.toNat : Int)] 5)).drew)
  have hnz : ((W0.alloc (.cells #[.int .u8 (cl.toNat : Int)] 5)).drew).heap[W0.heap.size]? = some (.cells #[.int .u8 (cl.toNat : Int)] 5) := heap_alloc_new W0 _
  have HNZ := Lib.hid (World.news_of_block hnz)
  have H0 := Lib.hid (And.intro hbw0 (And.intro hfn0 (And.intro hch0 (And.intro hg0 hsz0))))
  have hcA : ((W0.alloc (.cells #[.int .u8 (cl.toNat : Int)] 5)).drew).cell? ⟨gb, 0, none⟩ = some (.slice (some ⟨r, 0, none⟩) l.length cap) := HA0.out.cell.1
  clear hnz hbw0 hfn0 hch0 hg0 hsz0
  go_cut [] (fun wx => Hid (Bw wx gb base r cap (l ++ [cl]) ∧ Ch W0 wx (Two gb r)))
  case first =>
    go_region_law (first
      | (refine step_append_fits _ (by rfl) _ _ _ (by rfl) base 5 i0 Try.underlying27 hi hz4 r l.length cap (valB l) (by rfl) HA0.out.2.1 ⟨W0.heap.size, 0, none⟩ 1 1 [.int .u8 (cl.toNat : Int)] (by rfl) (by rfl) HNZ.out (u8_one _) (by omega) ?_; intro w1 hown1 hg1 hzz1; have hgb1 : w1.heap[gb]? = _ := (hg1.block gb (block_lt HA0.out.1) (fun e => HA0.out.2.2 (by simpa using e.symm))).trans HA0.out.1; have hfz1 := frozen_of_row w1 gb 0 _ _ hgb1; have hcl1 : w1.cell? ⟨gb, 0, none⟩ = some (.slice (some ⟨r, 0, none⟩) l.length cap) := (by rw [cell_of_row _ _ _ _ _ _ hgb1]; rfl))
      | (go_simp; refine (HLE.out _).mono ?_; rintro e W2 ⟨rfl, hw9⟩; obtain rfl := hw9.symm; dsimp only))
    all_goals
      have HP := Lib.hid (Bw.put HA0.out (l2 := [cl]) (m := 1) rfl hown1 hg1)
      clear hown1 hg1 hgb1 hzz1
      go_wp2_with fail
      go_meet
      exact ⟨HP.out.1, (((Ch.refl W0 (Two gb r)).alloc _).drew).trans HP.out.2 (fun k _ hk => hk)⟩
  case rest =>
    obtain ⟨W1, hW1⟩ : ∃ W1, W1 = wc := ⟨_, rfl⟩
    subst hW1
    have HTW := Lib.hid (show ¬ Two gb r w.heap.size from fun e => Or.elim e (fun e => by have := HLT.out.1; omega) (fun e => by have := HLT.out.2.1; omega))
    have HF1 := Lib.hid (show Fns W1 gb gt gn r from H0.out.2.1.ch hcut.out.2)
    have HC1 := Lib.hid (show Ch w W1 (Two gb r) from H0.out.2.2.1.trans hcut.out.2 (fun k _ hk => hk))
    have HG1 := Lib.hid (show W1.heap[w.heap.size]? = some (ndCells nd.k nd.d (.slice A nd.es.len c)) from hcut.out.2.heap H0.out.2.2.2.1 HTW.out)
    have HZ1 := Lib.hid (show w.heap.size + 1 ≤ W1.heap.size by have := hcut.out.2.size; have := H0.out.2.2.2.2; omega)
    have HB1 := Lib.hid hcut.out.1
    clear hcut hn0 hn1 hn2 hcb hfb hcA HA0 HNZ HLE H0
    obtain ⟨hn0, hn1, hn2, _⟩ := nd_box HG1.out
    obtain ⟨hct1, hcn1⟩ := HF1.out.cells
    unfold textFn at hct1
    unfold nodeFn at hcn1
    have hll : (l ++ [cl]).length = l.length + 1 := by rw [List.length_append]; rfl
    by_cases h4 : nd.k = 4
    rotate_left
    · have e4 : ((nd.k : Int) != 4) = true := bne_iff_ne.2 (by omega)
      have hsz : sizN nd = 5 + nd.d.size := by rw [HSN.out, if_neg h4]
      have HE := Lib.hid (show encN nd = [cl] ++ encT nd.d by rw [HEN.out, if_neg h4]; rfl)
      have HT := Lib.hid (text1_any nd.d (by omega) W1 gb base r cap (l ++ [cl]) HB1.out (by rw [hll]; omega))
      clear h4 hsz hll hcn1
      go_wp2_with fail
      refine HT.out.mono ?_
      rintro e W2 ⟨rfl, hp2⟩
      have HP2 := Lib.hid hp2
      clear hp2 hn0 hn1 hn2 hct1
      go_wp2_with fail
      refine bodyPost_ret (v := .tuple #[]) (by simp [results, Try.results26, go_sem]) rfl ⟨rfl, ?_, ?_⟩
      · rw [HE.out, ← List.append_assoc]; exact HP2.out.1
      · exact HC1.out.trans HP2.out.2 (fun k _ hk => hk)
    have e4 : ((nd.k : Int) != 4) = false := by rw [h4]; rfl
    have hsz : sizN nd = 3 + sizE nd.es := by rw [HSN.out, if_pos h4]
    have HE := Lib.hid (show encN nd = [cl] ++ (num2 nd.es.len ++ encE nd.es) by rw [HEN.out, if_pos h4]; rfl)
    have HSE := Lib.hid (show l.length + (3 + sizE nd.es) ≤ cap by omega)
    have HKM := Lib.hid (may_kids hmay)
    have hlen := len_le_count nd.es
    obtain ⟨hb1, hx1⟩ := byte_of nd.es.len 256 256 rfl
    have hb0 : IntKind.u8.wrap (nd.es.len : Int) = ((UInt8.ofNat nd.es.len).toNat : Int) := by rw [IntKind.wrap_u8, UInt8.toNat_ofNat', Int.natCast_emod]; rfl
    have HN := Lib.hid (show num2 nd.es.len = [UInt8.ofNat (nd.es.len / 256), UInt8.ofNat nd.es.len] from rfl)
    generalize UInt8.ofNat (nd.es.len / 256) = c1 at *
    generalize UInt8.ofNat nd.es.len = c0 at *
    have hl2 : (num2 nd.es.len).length = 2 := rfl
    have HV := Lib.hid (show valB (num2 nd.es.len) = [.int .u8 (c1.toNat : Int), .int .u8 (c0.toNat : Int)] by rw [HN.out]; rfl)
    have HA1 := Lib.hid (HB1.out.alloc (.cells #[.int .u8 (c1.toNat : Int), .int .u8 (c0.toNat : Int)] 5))
    have HNW := Lib.hid (World.news_of_block (heap_alloc_new W1 (.cells #[.int .u8 (c1.toNat : Int), .int .u8 (c0.toNat : Int)] 5)))
    obtain ⟨hcb, hfb⟩ := HB1.out.cell
    rw [hll] at hcb
    have HLL := Lib.hid hll
    have HCT := Lib.hid (And.intro hct hlen)
    clear h4 hsz hll hmay hct hlen hct1 hcn1
    go_wp2_with (at_builtin; refine wpList_append_fits _ rfl _ _ 27 rfl base 5 i0 Try.underlying27 hi hz4 r (l.length + 1) cap (valB (l ++ [cl])) rfl (by have := HA1.out.2.1; rw [HLL.out] at this; exact this) ⟨W1.heap.size, 0, none⟩ 2 2 [.int .u8 (c1.toNat : Int), .int .u8 (c0.toNat : Int)] rfl rfl HNW.out (by intro u hu; simp at hu; rcases hu with rfl | rfl <;> rfl) (by have := HSE.out; omega) ?_)
    intro w2 hown2 hg2 hzz2
    rw [← HV.out] at hown2
    have hpx := Bw.put HA1.out (l2 := num2 nd.es.len) hl2 (by rw [HLL.out]; exact hown2) hg2
    rw [HLL.out] at hpx
    have hgb2 : w2.heap[gb]? = _ := (hg2.block gb (block_lt HA1.out.1) (fun e => HA1.out.2.2 (by simpa using e.symm))).trans HA1.out.1
    have hfz2 := frozen_of_row w2 gb 0 _ _ hgb2
    have hcl2 : w2.cell? ⟨gb, 0, none⟩ = some (.slice (some ⟨r, 0, none⟩) (l.length + 1) cap) := by rw [cell_of_row _ _ _ _ _ _ hgb2, HLL.out]; rfl
    obtain ⟨W3, e3⟩ : ∃ W3, W3 = w2.setCell ⟨gb, 0, none⟩ (.slice (some ⟨r, 0, none⟩) (l.length + 1 + 2) cap) := ⟨_, rfl⟩
    rw [← e3] at hpx
    have hch3 : Ch W1 W3 (Two gb r) := ((Ch.refl W1 (Two gb r)).alloc _).trans hpx.2 (fun k _ hk => hk)
    have H3 := Lib.hid (show Bw W3 gb base r cap (l ++ ([cl] ++ (num2 nd.es.len ++ encE (takeE 0 nd.es)))) by rw [enc_take_zero, List.append_nil, ← List.append_assoc]; exact hpx.1)
    have HC3 := Lib.hid (HC1.out.trans hch3 (fun k _ hk => hk))
    have HF3 := Lib.hid (HF1.out.ch hch3)
    have HG3 := Lib.hid (hch3.heap HG1.out HTW.out)
    have HZ3 := Lib.hid (show w.heap.size + 1 ≤ W3.heap.size by have := hch3.size; have := HZ1.out; omega)
    clear hown2 hg2 hzz2 hpx hgb2 hch3 hn0 hn1 hn2 hcb hfb hb0 hb1 hx1
    obtain ⟨hn0, hn1, hn2, _⟩ := nd_box HG3.out
    go_upto_region 5 with (fail)
    rw [← e3]
    clear e3 hcl2 hfz2 HA1 HNW HV HN
    go_wp2
    clear hn0 hn1 hn2
    go_loopg [35] nd.es.len (fun g u35 wx => ∃ i : Nat, u35 = .int .i64 (i : Int) ∧ i + g = nd.es.len ∧ Hid (Bw wx gb base r cap (l ++ ([cl] ++ (num2 nd.es.len ++ encE (takeE i nd.es)))) ∧ Ch W3 wx (Two gb r)))
    case atStart => exact ⟨0, rfl, by omega, H3.out, Ch.refl _ _⟩
    case round =>
      obtain ⟨i, rfl, hig, HW⟩ := hrel
      have HCw := Lib.hid (HC3.out.trans HW.out.2 (fun k _ hk => hk))
      cases gk with
      | zero =>
        obtain rfl : i = nd.es.len := by omega
        have HTA := Lib.hid (take_all nd.es)
        go_wp2
        go_end0
        refine ⟨rfl, ?_, HCw.out⟩
        have := HW.out.1
        rw [HTA.out] at this
        rw [HE.out]
        exact this
      | succ g =>
        have hil : i < nd.es.len := by omega
        have hBw : B ≤ w.heap.size := by have := HLT.out.1; omega
        have hbl : Below B w wr := HCw.out.below hBw (fun k hk => Or.elim hk (fun e => by omega) (fun e => by omega))
        obtain ⟨ab, ao, rfl, hlt, hcs⟩ := es_addr HES.out (by omega)
        obtain ⟨hk1, hk2, hk3, hk4, A2, c2, hk5, hk6⟩ := kid_at hcs hil hlt
        obtain ⟨hnm, hnz⟩ := name_at hcs hil
        have hq0 : wr.cell? ⟨ab, ao + i * 4, none⟩ = _ := (hbl.cell (p := ⟨ab, ao + i * 4, none⟩) (by show ab < _; omega)).trans hnm
        have hq1 : wr.cell? ⟨ab, ao + i * 4 + 1, none⟩ = _ := (hbl.cell (p := ⟨ab, ao + i * 4 + 1, none⟩) (by show ab < _; omega)).trans hk1
        have hq2 : wr.cell? ⟨ab, ao + i * 4 + 2, none⟩ = _ := (hbl.cell (p := ⟨ab, ao + i * 4 + 2, none⟩) (by show ab < _; omega)).trans hk2
        have hq3 : wr.cell? ⟨ab, ao + i * 4 + 3, none⟩ = _ := (hbl.cell (p := ⟨ab, ao + i * 4 + 3, none⟩) (by show ab < _; omega)).trans hk5
        have hkc := kid_count nd.es i hil
        have hst := enc_take nd.es i hil
        have hks := siz_take nd.es i hil
        have hle := siz_take_le nd.es (i + 1)
        have hym := kid_may HKM.out hil
        obtain ⟨y, hy⟩ : ∃ y, y = kidE nd.es i := ⟨_, rfl⟩
        obtain ⟨nm, hnmE⟩ : ∃ nm, nm = nmE nd.es i := ⟨_, rfl⟩
        rw [← hy] at hq1 hq2 hq3 hk3 hk4 hk6 hst hks hkc hym
        rw [← hnmE] at hq0 hst hks
        have hse := HSE.out
        obtain ⟨lp, hlp⟩ : ∃ lp, lp = l ++ ([cl] ++ (num2 nd.es.len ++ encE (takeE i nd.es))) := ⟨_, rfl⟩
        have hlpl : lp.length = l.length + 3 + sizE (takeE i nd.es) := by
          rw [hlp]; simp only [List.length_append, Arc.encE_len, List.length_cons, List.length_nil]; rw [show (num2 nd.es.len).length = 2 from rfl]; omega
        have HNX := Lib.hid (show lp ++ encT nm ++ encN y = l ++ ([cl] ++ (num2 nd.es.len ++ encE (takeE (i + 1) nd.es))) by
          rw [hst, hlp]
          simp only [List.append_assoc])
        have HW1 := Lib.hid (And.intro HW.out.1 HW.out.2)
        rw [← hlp] at HW1
        have HFw := Lib.hid (HF3.out.ch HW.out.2)
        have HZw := Lib.hid (show w.heap.size + 1 ≤ wr.heap.size by have := HW.out.2.size; have := HZ3.out; omega)
        have hw3 : IntKind.i64.wrap ((i : Int) + 1) = (i : Int) + 1 := IntWalk.i64_in _ (by unfold maxLen at hcm; omega)
        obtain ⟨wb, eb, hgb, hbb⟩ : ∃ wb, wb = wr.alloc (.cells #[.string nm, .int .u8 (y.k : Int), .string y.d, .slice A2 y.es.len c2] 42) ∧ wb.heap[wr.heap.size]? = some (.cells #[.string nm, .int .u8 (y.k : Int), .string y.d, .slice A2 y.es.len c2] 42 (0, 0)) ∧ Ch wr wb (Two gb r) := ⟨_, rfl, heap_alloc_new _ _, (Ch.refl _ _).alloc _⟩
        have HBWb := Lib.hid (show Bw wb gb base r cap lp by rw [eb]; exact HW1.out.1.alloc _)
        have HFb := Lib.hid (HFw.out.ch hbb)
        have HT := Lib.hid (text1_any nm (by omega) wb gb base r cap lp HBWb.out (by omega))
        have HGB := Lib.hid hgb
        have HBB := Lib.hid hbb
        have HTWr := Lib.hid (show ¬ Two gb r wr.heap.size from fun e => Or.elim e (fun e => by have := HLT.out.1; have := HZw.out; omega) (fun e => by have := HLT.out.2.1; have := HZw.out; omega))
        have HREC := Lib.hid (fun (w' : World) (hc : Ch wb w' (Two gb r)) (hw : Bw w' gb base r cap (lp ++ encT nm)) => HIH.out.1 y.es.count (by have := HIH.out.2; omega) y (Nat.le_refl _) hym (by have := HCT.out.1; omega) w' gb gt gn base r cap (lp ++ encT nm) hw (HFb.out.ch hc) hcap (by rw [List.length_append, Arc.encT_len]; omega) B hB1 hB2 (.agg #[.int .u8 (y.k : Int), .string y.d, .slice A2 y.es.len c2]) ⟨_, rfl, hk6.keep ((HCw.out.trans (hbb.trans hc (fun k _ hk => hk)) (fun k _ hk => hk)).below hBw (fun k hk => Or.elim hk (fun e => by omega) (fun e => by omega))), hk3, hk4⟩)
        clear hkc hcs hk1 hk2 hk3 hk4 hk5 hk6 hnm hnz hst hks hle hym hy hnmE hlp hlpl hse hgb hbb hbl HW
        go_upto_region 8 with (fail)
        rw [← eb]
        clear eb hq0 hq1 hq2 hq3
        obtain ⟨hct1, _⟩ := HFb.out.cells
        unfold textFn at hct1
        have hp0 : wb.cell? ⟨wr.heap.size, 0, none⟩ = some (.string nm) := by rw [cell_of_row _ _ _ _ _ _ HGB.out]; rfl
        go_wp2_with fail
        refine HT.out.mono ?_
        rintro e W4 ⟨rfl, hp4⟩
        have HP4 := Lib.hid hp4
        clear hp4 hct1 hp0
        obtain ⟨_, hcn1⟩ := (HFb.out.ch HP4.out.2).cells
        unfold nodeFn at hcn1
        have hgb4 := HP4.out.2.heap HGB.out HTWr.out
        have hp1 : W4.cell? ⟨wr.heap.size, 1, none⟩ = some (.int .u8 (y.k : Int)) := by rw [cell_of_row _ _ _ _ _ _ hgb4]; rfl
        have hp2 : W4.cell? ⟨wr.heap.size, 2, none⟩ = some (.string y.d) := by rw [cell_of_row _ _ _ _ _ _ hgb4]; rfl
        have hp3 : W4.cell? ⟨wr.heap.size, 3, none⟩ = some (.slice A2 y.es.len c2) := by rw [cell_of_row _ _ _ _ _ _ hgb4]; rfl
        clear hgb4
        go_wp2_with fail
        refine (HREC.out W4 HP4.out.2 HP4.out.1).mono ?_
        rintro e W5 ⟨rfl, hp5⟩
        have HP5 := Lib.hid hp5
        clear hp5 hcn1 hp1 hp2 hp3
        go_wp2
        go_roundg g
        case measure => omega
        case rel =>
          refine ⟨i + 1, by simp, by omega, ?_, ?_⟩
          · rw [← HNX.out]; exact HP5.out.1
          · exact HW1.out.2.trans (HBB.out.trans (HP4.out.2.trans HP5.out.2 (fun k _ hk => hk)) (fun k _ hk => hk)) (fun k _ hk => hk)
end Go.Proofs.Ytcleebigfbbdbaa
