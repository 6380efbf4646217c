/- archive: the reference's text, node, Len, Put. -/
import Derived.Test.YtcleebigfbbdbaaArcB
set_option linter.unusedVariables false
set_option linter.unusedSimpArgs false
namespace Go.Proofs.Ytcleebigfbbdbaa
open Go Go.RowKit Go.BigFrame
open Fil (Es Nd Sp)
open Arc (BL num4 num2 encT letK encE encN sizE sizN)

/-- A row of bytes just made, as a text. -/
theorem conv_new (w : World) (l : BL) (cs : Array Value) (hcs : cs.toList = valB l) (cap : Nat) :
    (convert 27 9 (.slice (some ⟨w.heap.size, 0, none⟩) l.length cap)).run Try.prog (w.alloc (.cells cs 5)) = .ok (.string (strOf l)) (w.alloc (.cells cs 5)) := by
  refine run_convert_bytes_back _ 27 9 5 ⟨w.heap.size, 0, none⟩ cap l Try.underlying27 Try.underlying5 Try.underlying9 fun j hj => ?_
  rw [add_none, Nat.zero_add, cell_of_row _ _ _ _ _ _ (heap_alloc_new w _)]
  have : cs.toList[j]? = some (.int .u8 (l[j].toNat : Int)) := by rw [hcs]; simp [valB, List.getElem?_eq_getElem hj]
  simpa using this
theorem strOf_app (a b : BL) : strOf a ++ strOf b = strOf (a ++ b) := by
  apply str_ext
  simp [strOf, ByteArray.data_append]
theorem strOf_text (s : ByteArray) : strOf s.data.toList = s := by
  apply str_ext
  simp [strOf]
theorem byte_of (n k : Nat) (K : Int) (hK : K = (k : Int)) : IntKind.u8.wrap ((n : Int) / K) = ((UInt8.ofNat (n / k)).toNat : Int) ∧ (n : Int) / K % 256 = ((UInt8.ofNat (n / k)).toNat : Int) := by
  subst hK
  rw [IntKind.wrap_u8, UInt8.toNat_ofNat', Int.natCast_emod, Int.natCast_ediv]
  exact ⟨rfl, rfl⟩
theorem byte_small (n k : Nat) (K : Int) (hK : K = (k : Int)) (h : n / k < 256) : (n : Int) / K = ((UInt8.ofNat (n / k)).toNat : Int) := by
  subst hK
  rw [UInt8.toNat_ofNat', Nat.mod_eq_of_lt h, Int.natCast_ediv]
set_option maxRecDepth 1000000 in
set_option maxRecDepth 100000 in
set_option maxHeartbeats 1000000 in
theorem refText_any (s : ByteArray) (hs : s.size ≤ 1000000000) (w : World) : Calls Try.prog 44 #[.string s] w fun e W => e = .returned (.string (strOf (encT s))) ∧ Below w.heap.size w W := by
  obtain ⟨hb3, hx3⟩ := byte_of s.size 16777216 16777216 rfl
  have hy3 := byte_small s.size 16777216 16777216 rfl (by omega)
  obtain ⟨hb2, hx2⟩ := byte_of s.size 65536 65536 rfl
  obtain ⟨hb1, hx1⟩ := byte_of s.size 256 256 rfl
  have hb0 : IntKind.u8.wrap (s.size : Int) = ((UInt8.ofNat s.size).toNat : Int) := by rw [IntKind.wrap_u8, UInt8.toNat_ofNat', Int.natCast_emod]; rfl
  have hz4 : ¬ 9223372036854775807 < (strOf (num4 s.size)).size + s.size := by rw [strOf_size, show (num4 s.size).length = 4 from rfl]; omega
  have HR := Lib.hid (show strOf (num4 s.size) ++ s = strOf (encT s) by
    unfold encT
    rw [← strOf_app, strOf_text])
  have HN := Lib.hid (show num4 s.size = [UInt8.ofNat (s.size / 16777216), UInt8.ofNat (s.size / 65536), UInt8.ofNat (s.size / 256), UInt8.ofNat s.size] from rfl)
  generalize UInt8.ofNat (s.size / 16777216) = c3 at *
  generalize UInt8.ofNat (s.size / 65536) = c2 at *
  generalize UInt8.ofNat (s.size / 256) = c1 at *
  generalize UInt8.ofNat s.size = c0 at *
  have hcv := conv_new w (num4 s.size) #[.int .u8 (c3.toNat : Int), .int .u8 (c2.toNat : Int), .int .u8 (c1.toNat : Int), .int .u8 (c0.toNat : Int)] (by rw [HN.out]; rfl) 4
  have hl4 : (num4 s.size).length = 4 := rfl
  rw [hl4] at hcv
  have HB := Lib.hid ((Below.refl w.heap.size w).alloc (Nat.le_refl _) (.cells #[.int .u8 (c3.toNat : Int), .int .u8 (c2.toNat : Int), .int .u8 (c1.toNat : Int), .int .u8 (c0.toNat : Int)] 5))
  generalize strOf (num4 s.size) = t4 at *
  go_enter Try.func44, Try.ntmps44
  go_wp2
  go_ret
  exact ⟨by rw [← HR.out]; rfl, HB.out⟩
theorem str_cons (c : UInt8) (l : BL) : (⟨#[c]⟩ : ByteArray) ++ strOf l = strOf (c :: l) := by
  apply str_ext
  simp [strOf, ByteArray.data_append]
set_option maxRecDepth 1000000 in
set_option maxRecDepth 100000 in
set_option maxHeartbeats 4000000 in
theorem refNode_any : ∀ (m : Nat) (nd : Nd), nd.es.count ≤ m → nd.may = true → nd.es.count ≤ 1000000 → sizN nd ≤ 1000000000 → ∀ (w : World) (B : Nat), B ≤ w.heap.size → ∀ v, NdV w B v nd → Calls Try.prog 28 #[v] w fun e W => e = .returned (.string (strOf (encN nd))) ∧ Below w.heap.size w W := by
  intro m
  induction m using Nat.strongRecOn with
  | ind m ih =>
  intro nd hm hmay hct hbd w B hB v hv
  obtain ⟨ev, rfl, hes, hd, hk⟩ := hv
  obtain ⟨A, c, rfl, hlc, hcm⟩ := hes.form
  have HIH := Lib.hid (And.intro ih hm)
  clear ih hm
  go_enter Try.func28, Try.ntmps28
  have hbw0 : Below w.heap.size w (w.alloc (ndCells nd.k nd.d (.slice A nd.es.len c))) := (Below.refl _ w).alloc (Nat.le_refl _) _
  have hg0 : (w.alloc (ndCells nd.k nd.d (.slice A nd.es.len c))).heap[w.heap.size]? = some (ndCells nd.k nd.d (.slice A nd.es.len c)) := heap_alloc_new _ _
  have hsz : (w.alloc (ndCells nd.k nd.d (.slice A nd.es.len c))).heap.size = w.heap.size + 1 := by simp
  have HES := Lib.hid hes
  obtain ⟨W0, hW0⟩ : ∃ W0, W0 = w.alloc (ndCells nd.k nd.d (.slice A nd.es.len c)) := ⟨_, rfl⟩
  rw [← hW0] at hbw0 hg0 hsz
  unfold ndCells at hW0
  go_upto_region 1 with (fail)
  rw [← hW0]
  clear hW0 hes
  obtain ⟨hn0, hn1, hn2, _⟩ := nd_box hg0
  have HB := Lib.hid (And.intro hbw0 (And.intro hg0 hsz))
  clear hbw0 hg0 hsz
  have HEN := Lib.hid (show encN nd = letK nd.k :: (if nd.k = 4 then num2 nd.es.len ++ encE nd.es else encT nd.d) from rfl)
  have HSN := Lib.hid (show sizN nd = if nd.k = 4 then 3 + sizE nd.es else 5 + nd.d.size from rfl)
  have HTX := Lib.hid (fun (h : nd.k ≠ 4) (w' : World) => refText_any nd.d (by have := HSN.out; rw [if_neg h] at this; omega) w')
  have HTZ := Lib.hid (fun (h : nd.k ≠ 4) => show ¬ 9223372036854775807 < 1 + (strOf (encT nd.d)).size from by rw [strOf_size, Arc.encT_len]; have := HSN.out; rw [if_neg h] at this; omega)
  have HMK := Lib.hid (may_kind hmay)
  by_cases h1 : nd.k = 1
  · have e1 : ((nd.k : Int) == 1) = true := by rw [h1]; rfl
    have HF := Lib.hid (show encN nd = 70 :: encT nd.d by rw [HEN.out, h1, if_neg (by decide)]; rfl)
    have hz := HTZ.out (by omega)
    have hT := Lib.hid (HTX.out (by omega) W0)
    clear h1 hmay 
    generalize hts : strOf (encT nd.d) = tT at *
    have HTT := Lib.hid hts
    clear hts hn2
    go_wp2_with fail
    refine hT.out.mono ?_
    rintro e W2 ⟨rfl, hb2⟩
    have HB2 := Lib.hid (HB.out.1.trans (hb2.mono (by have := HB.out.2.2; omega)))
    clear hb2
    go_wp2
    go_ret
    exact ⟨by rw [HF.out, ← str_cons, HTT.out]; rfl, HB2.out⟩
  have e1 : ((nd.k : Int) == 1) = false := beq_eq_false_iff_ne.2 (by omega)
  by_cases h2 : nd.k = 2
  · have e2 : ((nd.k : Int) == 2) = true := by rw [h2]; rfl
    have HF := Lib.hid (show encN nd = 88 :: encT nd.d by rw [HEN.out, h2, if_neg (by decide)]; rfl)
    have hz := HTZ.out (by omega)
    have hT := Lib.hid (HTX.out (by omega) W0)
    clear h2 hmay h1
    generalize hts : strOf (encT nd.d) = tT at *
    have HTT := Lib.hid hts
    clear hts hn2
    go_wp2_with fail
    refine hT.out.mono ?_
    rintro e W2 ⟨rfl, hb2⟩
    have HB2 := Lib.hid (HB.out.1.trans (hb2.mono (by have := HB.out.2.2; omega)))
    clear hb2
    go_wp2
    go_ret
    exact ⟨by rw [HF.out, ← str_cons, HTT.out]; rfl, HB2.out⟩
  have e2 : ((nd.k : Int) == 2) = false := beq_eq_false_iff_ne.2 (by omega)
  by_cases h3 : nd.k = 3
  · have e3 : ((nd.k : Int) == 3) = true := by rw [h3]; rfl
    have HF := Lib.hid (show encN nd = 76 :: encT nd.d by rw [HEN.out, h3, if_neg (by decide)]; rfl)
    have hz := HTZ.out (by omega)
    have hT := Lib.hid (HTX.out (by omega) W0)
    clear h3 hmay h1 h2
    generalize hts : strOf (encT nd.d) = tT at *
    have HTT := Lib.hid hts
    clear hts hn2
    go_wp2_with fail
    refine hT.out.mono ?_
    rintro e W2 ⟨rfl, hb2⟩
    have HB2 := Lib.hid (HB.out.1.trans (hb2.mono (by have := HB.out.2.2; omega)))
    clear hb2
    go_wp2
    go_ret
    exact ⟨by rw [HF.out, ← str_cons, HTT.out]; rfl, HB2.out⟩
  have e3 : ((nd.k : Int) == 3) = false := beq_eq_false_iff_ne.2 (by omega)
  have h4 : nd.k = 4 := by have := HMK.out; omega
  have HFN := Lib.hid (show encN nd = 68 :: (num2 nd.es.len ++ encE nd.es) by rw [HEN.out, h4, if_pos rfl]; rfl)
  have HFS := Lib.hid (show sizE nd.es ≤ 1000000000 by have := HSN.out; rw [if_pos h4] at this; omega)
  have HKM := Lib.hid (may_kids hmay)
  have hlen := len_le_count nd.es
  obtain ⟨hb1, hx1⟩ := byte_of nd.es.len 256 256 rfl
  have hb0 : IntKind.u8.wrap (nd.es.len : Int) = ((UInt8.ofNat nd.es.len).toNat : Int) := by rw [IntKind.wrap_u8, UInt8.toNat_ofNat', Int.natCast_emod]; rfl
  have HN := Lib.hid (show num2 nd.es.len = [UInt8.ofNat (nd.es.len / 256), UInt8.ofNat nd.es.len] from rfl)
  generalize UInt8.ofNat (nd.es.len / 256) = c1 at *
  generalize UInt8.ofNat nd.es.len = c0 at *
  have hcv := conv_new W0 (num2 nd.es.len) #[.int .u8 (c1.toNat : Int), .int .u8 (c0.toNat : Int)] (by rw [HN.out]; rfl) 2
  have hl2 : (num2 nd.es.len).length = 2 := rfl
  rw [hl2] at hcv
  obtain ⟨W1, hW1, hbW1⟩ : ∃ W1, W1 = W0.alloc (.cells #[.int .u8 (c1.toNat : Int), .int .u8 (c0.toNat : Int)] 5) ∧ Below W0.heap.size W0 W1 := ⟨_, rfl, (Below.refl _ _).alloc (Nat.le_refl _) _⟩
  have hzt : ¬ 9223372036854775807 < 1 + (strOf (num2 nd.es.len)).size := by rw [strOf_size, hl2]; omega
  have HST0 := Lib.hid (show (⟨#[68]⟩ : ByteArray) ++ strOf (num2 nd.es.len) = strOf (68 :: (num2 nd.es.len ++ encE (takeE 0 nd.es))) by rw [str_cons, enc_take_zero, List.append_nil])
  generalize strOf (num2 nd.es.len) = t2 at *
  have HCT := Lib.hid (And.intro hct hlen)
  clear h1 h2 h3 h4 hmay hct hlen hl2
  go_upto_region 9 with (fail)
  rw [← hW1]
  clear hb1 hx1 hb0 hcv hn0 hn1 hn2 hzt
  rw [HST0.out]
  have HB1 := Lib.hid (show Below w.heap.size w W1 ∧ W1.heap[w.heap.size]? = some (ndCells nd.k nd.d (.slice A nd.es.len c)) ∧ w.heap.size + 1 ≤ W1.heap.size from ⟨HB.out.1.trans (hbW1.mono (by have := HB.out.2.2; omega)), (hbW1.block _ (by have := HB.out.2.2; omega)).trans HB.out.2.1, by have := hbW1.size; have := HB.out.2.2; omega⟩)
  clear hW1 hbW1 HST0 HN
  go_wp2
  go_loopg [3, 4] nd.es.len (fun g u3 u4 wx => ∃ i : Nat, u3 = .string (strOf (68 :: (num2 nd.es.len ++ encE (takeE i nd.es)))) ∧ u4 = .int .i64 (i : Int) ∧ i + g = nd.es.len ∧ Below W1.heap.size W1 wx)
  case atStart => exact ⟨0, rfl, rfl, by omega, Below.refl _ _⟩
  case round =>
    obtain ⟨i, rfl, rfl, hig, hbw⟩ := hrel
    have hbl : Below w.heap.size w wr := HB1.out.1.trans (hbw.mono (by have := HB1.out.2.2; omega))
    have hbx : wr.heap[w.heap.size]? = some (ndCells nd.k nd.d (.slice A nd.es.len c)) := (hbw.block _ (by have := HB1.out.2.2; omega)).trans HB1.out.2.1
    obtain ⟨hn0, hn1, hn2, _⟩ := nd_box hbx
    cases gk with
    | zero =>
      obtain rfl : i = nd.es.len := by omega
      have HE := Lib.hid (take_all nd.es)
      clear hbx
      go_wp2
      go_ret
      exact ⟨by rw [HFN.out, HE.out]; rfl, hbl⟩
    | succ g =>
      have hil : i < nd.es.len := by omega
      obtain ⟨ab, ao, rfl, hlt, hcs⟩ := es_addr HES.out (by omega)
      obtain ⟨hk1, hk2, hk3, hk4, A2, c2, hk5, hk6⟩ := kid_at hcs hil hlt
      obtain ⟨hnm, hnz⟩ := name_at hcs hil
      have hkc := kid_count nd.es i hil
      have hst := enc_take nd.es i hil
      have hks := kid_siz nd.es i hil
      have hle := siz_take_le nd.es (i + 1)
      have hs1 := siz_take nd.es i hil
      have hym := kid_may HKM.out hil
      obtain ⟨y, hy⟩ : ∃ y, y = kidE nd.es i := ⟨_, rfl⟩
      obtain ⟨nm, hnmE⟩ : ∃ nm, nm = nmE nd.es i := ⟨_, rfl⟩
      rw [← hy] at hk1 hk2 hk3 hk4 hk5 hk6 hst hks hkc hym hs1
      rw [← hnmE] at hnm hst hks hs1
      have hfb := HFS.out
      have hw3 : IntKind.i64.wrap ((i : Int) + 1) = (i : Int) + 1 := IntWalk.i64_in _ (by unfold maxLen at hcm; omega)
      have hz1 : ¬ 9223372036854775807 < (strOf (68 :: (num2 nd.es.len ++ encE (takeE i nd.es)))).size + (strOf (encT nm)).size := by
        rw [strOf_size, strOf_size, List.length_cons, List.length_append, Arc.encE_len, Arc.encT_len, show (num2 nd.es.len).length = 2 from rfl]; omega
      have hz2 : ¬ 9223372036854775807 < (strOf (68 :: (num2 nd.es.len ++ encE (takeE i nd.es))) ++ strOf (encT nm)).size + (strOf (encN y)).size := by
        rw [ByteArray.size_append, strOf_size, strOf_size, strOf_size, List.length_cons, List.length_append, Arc.encE_len, Arc.encT_len, Arc.encN_len, show (num2 nd.es.len).length = 2 from rfl]; omega
      have hz3 := hz2
      rw [ByteArray.size_append] at hz3
      have HNX := Lib.hid (show strOf (68 :: (num2 nd.es.len ++ encE (takeE i nd.es))) ++ strOf (encT nm) ++ strOf (encN y) = strOf (68 :: (num2 nd.es.len ++ encE (takeE (i + 1) nd.es))) by
        rw [hst, strOf_app, strOf_app]
        congr 1
        simp only [List.cons_append, List.append_assoc])
      have HTL := Lib.hid (fun (w' : World) (h : KeepW wr wr.heap.size w') => h.calls (refText_any nm (by omega) w'))
      have HIHK := Lib.hid (fun (w' : World) (h : KeepW wr wr.heap.size w') => h.calls (HIH.out.1 y.es.count (by have := HIH.out.2; omega) y (Nat.le_refl _) hym (by have := HCT.out.1; omega) (by omega) w' B (by have := h.2; have := hbl.size; omega) (.agg #[.int .u8 (y.k : Int), .string y.d, .slice A2 y.es.len c2]) ⟨_, rfl, hk6.keep ((hbl.trans (h.1.mono hbl.size)).mono hB), hk3, hk4⟩))
      have HS := Lib.hid (fun (w' : World) (h : KeepW wr wr.heap.size w') => show (w'.cell? ⟨w.heap.size, 2, none⟩ = some (.slice (some ⟨ab, ao, none⟩) nd.es.len c) ∧ w'.cell? ⟨ab, ao + i * 4, none⟩ = some (.string nm)) ∧ w'.cell? ⟨ab, ao + i * 4 + 1, none⟩ = some (.int .u8 (y.k : Int)) ∧ w'.cell? ⟨ab, ao + i * 4 + 2, none⟩ = some (.string y.d) ∧ w'.cell? ⟨ab, ao + i * 4 + 3, none⟩ = some (.slice A2 y.es.len c2) from by
        have hb : Below w.heap.size w w' := hbl.trans (h.1.mono hbl.size)
        have hc2 := (h.1.cell (p := ⟨w.heap.size, 2, none⟩) (by show w.heap.size < _; exact block_lt hbx)).trans hn2
        exact ⟨⟨hc2, (hb.cell (p := ⟨ab, ao + i * 4, none⟩) (by show ab < _; omega)).trans hnm⟩, (hb.cell (p := ⟨ab, ao + i * 4 + 1, none⟩) (by show ab < _; omega)).trans hk1, (hb.cell (p := ⟨ab, ao + i * 4 + 2, none⟩) (by show ab < _; omega)).trans hk2, (hb.cell (p := ⟨ab, ao + i * 4 + 3, none⟩) (by show ab < _; omega)).trans hk5⟩)
      have HK0 := Lib.hid (KeepW.start (Nat.le_refl wr.heap.size))
      have hilI : (i : Int) < (nd.es.len : Int) := by omega
      have hi0I : (0 : Int) ≤ (i : Int) := by omega
      clear hkc hcs hk1 hk2 hk3 hk4 hk5 hk6 hnm hnz hst hks hle hfb hy hnmE hn0 hn1 hbx hs1 hym
      generalize strOf (encN y) = tN at *
      generalize strOf (encT nm) = tM at *
      generalize strOf (68 :: (num2 nd.es.len ++ encE (takeE i nd.es))) = tC at *
      go_wp2
      clear hn2
      go_region_held3 (fun w' => (w'.cell? ⟨w.heap.size, 2, none⟩ = some (.slice (some ⟨ab, ao, none⟩) nd.es.len c) ∧ w'.cell? ⟨ab, ao + i * 4, none⟩ = some (.string nm)) ∧ w'.cell? ⟨ab, ao + i * 4 + 1, none⟩ = some (.int .u8 (y.k : Int)) ∧ w'.cell? ⟨ab, ao + i * 4 + 2, none⟩ = some (.string y.d) ∧ w'.cell? ⟨ab, ao + i * 4 + 3, none⟩ = some (.slice A2 y.es.len c2)) (first | exact HS.out _ (by first | assumption | exact KeepW.drew HK0.out | exact KeepW.drew (by assumption)) | go_keep) (first
        | (go_at_call 44; refine (HTL.out _ (by first | assumption | exact KeepW.drew HK0.out)).mono ?_; rintro e W2 ⟨rfl, hk2⟩)
        | (go_at_call 28; refine (HIHK.out _ (by first | assumption | exact KeepW.drew HK0.out)).mono ?_; rintro e W2 ⟨rfl, hk2⟩))
      all_goals
        have HK2 := Lib.hid (show KeepW wr wr.heap.size _ from hk2)
        clear hk2
        rw [HNX.out]
        go_wp2
        go_roundg g
        case measure => omega
        case rel => exact ⟨i + 1, rfl, by simp, by omega, hbw.trans (HK2.out.1.mono hbw.size)⟩
end Go.Proofs.Ytcleebigfbbdbaa
