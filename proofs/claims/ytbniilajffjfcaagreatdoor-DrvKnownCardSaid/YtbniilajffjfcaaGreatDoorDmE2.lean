/- drv: numbers and texts put as bytes. -/
import Derived.Test.YtbniilajffjfcaaGreatDoorDmE1
import Derived.Lib.AppendStr
set_option linter.unusedVariables false
set_option linter.unusedSimpArgs false
namespace Go.Proofs.YtbniilajffjfcaaGreatDoor
open Go.RowKit Go.BigFrame
open Go.Lib (strCells)

/-- The bytes of a number of k bytes; of a text; of a derivation. -/
def numL (n k : Nat) : List UInt8 := (List.range k).map fun i => UInt8.ofNat (n / 2 ^ (8 * (k - 1 - i)) % 256)
theorem numL_len (n k : Nat) : (numL n k).length = k := by simp [numL]
theorem numL_take (n k j : Nat) (h : j < k) : (numL n k).take (j + 1) = (numL n k).take j ++ [UInt8.ofNat (n / 2 ^ (8 * (k - 1 - j)) % 256)] := by
  rw [List.take_succ_eq_append_getElem (by rw [numL_len]; exact h)]
  simp [numL]
def textL (s : ByteArray) : List UInt8 := numL s.size 4 ++ s.data.toList
theorem textL_len (s : ByteArray) : (textL s).length = 4 + s.size := by simp [textL, numL_len]
def insL (ins : List ByteArray) : List UInt8 := (ins.map textL).flatten
theorem insL_snoc (ins : List ByteArray) (s : ByteArray) : insL (ins ++ [s]) = insL ins ++ textL s := by simp [insL]
def magic : List UInt8 := [68, 82, 86, 49]
def headL (nm : ByteArray) (n : Nat) : List UInt8 := magic ++ textL nm ++ numL n 2
def putL (nm : ByteArray) (ins : List ByteArray) (rc : ByteArray) : List UInt8 := headL nm ins.length ++ insL ins ++ textL rc
def u8c (l : List UInt8) : List Value := l.map fun c => .int .u8 (c.toNat : Int)
theorem u8c_len (l : List UInt8) : (u8c l).length = l.length := by simp [u8c]
theorem u8c_app (l m : List UInt8) : u8c (l ++ m) = u8c l ++ u8c m := by simp [u8c]
theorem u8c_str (s : ByteArray) : strCells s = u8c s.data.toList := by
  unfold strCells u8c
  first | rfl | simp
/-- A row of bytes of the call's own. -/
def BRow (w : World) (base : Nat) (v : Value) (l : List UInt8) : Prop := w.ownsRow base 5 1 v l.length (u8c l)
theorem BRow.own {w : World} {base : Nat} {v : Value} {l : List UInt8} (h : BRow w base v l) : w.ownsRow base 5 1 v l.length (u8c l) := h
theorem infoU8 : (Tryz.prog.info? 5).map (fun i => (i.zero, i.size, i.bytes)) = some (some (.int .u8 0), 1, 1) := by kernel_rfl
/-- The same, or a full row that others may hold as well. -/
def BStart (w : World) (base : Nat) (v : Value) (l : List UInt8) : Prop :=
  BRow w base v l ∨ (0 < l.length ∧ ∃ ad, v = .slice (some ad) l.length l.length ∧ ∀ j u, (u8c l)[j]? = some u → w.cell? (ad.add j) = some u)
theorem BStart.alloc {w : World} {base : Nat} {v : Value} {l : List UInt8} (h : BStart w base v l) (o : Obj) : BStart (w.alloc o) base v l := by
  rcases h with h | ⟨h0, ad, rfl, h⟩
  · exact .inl (h.own.alloc o)
  · refine .inr ⟨h0, ad, rfl, fun j u hu => ?_⟩
    have hc := h j u hu
    exact (World.cell?_of_block (Below.heap_alloc _ _ _ (World.block_lt_of_cell? w _ hc))).trans hc
theorem wpList_byte {w : World} {ops : Array Oper} {rest : List Oper} {o : Oper} {a : Act} {Q : Exit → Act → World → Prop} (hgd : o.guard = none) (s x : Operand)
    (ho : o.op = .call { callee := .builtin .append, args := #[s, x], argTypes := #[26, 26] })
    (base : Nat) (v : Value) (l : List UInt8) (hs : a.eval s = v) (hst : BStart w base v l) (ad : Addr) (c : UInt8) (hx : a.eval x = .slice (some ad) 1 1) (hc : w.cell? ad = some (.int .u8 (c.toNat : Int))) (hl : l.length ≤ 400000000) (hbase : base ≤ w.heap.size)
    (h : ∀ v' w', BRow w' base v' (l ++ [c]) → Below base w w' → wpList Tryz.prog ops Q rest (a.put o.dst v') w') : wpList Tryz.prog ops Q (o :: rest) a w := by
  obtain ⟨i0, hi, hz0, hz1, hz2⟩ := info_parts infoU8
  have hc' : ∀ j u, [Value.int .u8 (c.toNat : Int)][j]? = some u → w.cell? (ad.add j) = some u := fun j u hu => by
    match j, hu with
    | 0, hu => simp at hu; subst hu; rw [add_zero]; exact hc
  have hb : ∀ {v' w'}, w'.ownsRow base 5 1 v' (l.length + 1) (u8c l ++ [.int .u8 (c.toNat : Int)]) → BRow w' base v' (l ++ [c]) := fun {v' w'} h1 => by
    unfold BRow
    rw [List.length_append, u8c_app]
    exact h1
  rcases hst with hst | ⟨h0, ad2, rfl, hst⟩
  · refine wpList_append_own _ hgd s x 26 ho base 5 i0 (.int .u8 0) 1 1 Tryz.underlying26 hi hz0 hz1 hz2 rfl (by decide) v l.length _ hs hst.own ad 1 1 [.int .u8 (c.toNat : Int)] hx rfl hc' (u8_one _) (by unfold maxLen; omega) (by omega) hbase ?_
    intro v' w1 hown1 hgrow1 _
    exact h v' w1 (hb hown1) ((Below.refl _ _).mono hbase |>.grown hgrow1 hbase fun g e => (hst.own.lt g e).1)
  · refine wpList_append_grows _ hgd s x 26 ho 5 i0 (.int .u8 0) 1 1 Tryz.underlying26 hi hz0 hz1 hz2 rfl (by decide) (some ad2) l.length l.length (u8c l) hs (fun h => by cases h) (by rw [u8c_len]; omega) (fun b e j u hu => by cases e; exact hst j u hu) ad 1 1 [.int .u8 (c.toNat : Int)] hx rfl hc' (u8_one _) (by omega) (by unfold maxLen; omega) (by omega) ?_
    intro v' w1 hown1 hgrow1
    exact h v' w1 (hb (own_base hown1 hbase)) ((Below.refl _ _).mono hbase |>.grown hgrow1 hbase fun g e => by cases e)
def BPost (base : Nat) (l : List UInt8) (w : World) (e : Ending) (w' : World) : Prop := ∃ v', e = .returned v' ∧ BRow w' base v' l ∧ Below base w w'
set_option maxRecDepth 100000 in
set_option maxHeartbeats 1000000 in
theorem number_any (v : Value) (l : List UInt8) (n k : Nat) (base : Nat) (w : World) (hown : BStart w base v l) (hbase : base ≤ w.heap.size) (hl : l.length ≤ 4000000) (hn : n ≤ 9223372036854775807) (hk0 : 0 < k) (hk : k ≤ 8) :
    Calls Tryz.prog 35 #[v, .int .i64 (n : Int), .int .i64 (k : Int)] w (BPost base (l ++ numL n k) w) := by
  have HP := Lib.hid (fun (v' : Value) (w' : World) (h1 : BRow w' base v' (l ++ numL n k)) (h2 : Below base w w') => show BPost base (l ++ numL n k) w (.returned v') w' from ⟨v', rfl, h1, h2⟩)
  generalize BPost base (l ++ numL n k) w = post at *
  have HO := Lib.hid hown
  have HLL := Lib.hid hl
  clear hown hl
  go_enter Tryz.func35, Tryz.ntmps35
  go_wp2
  go_loopw [0, 7] (fun bv iv wr => ∃ j : Nat, j ≤ k ∧ iv = .int .i64 ((k : Int) - 1 - (j : Int)) ∧ Hid (BStart wr base bv (l ++ (numL n k).take j) ∧ (0 < j → BRow wr base bv (l ++ (numL n k).take j))) ∧ Hid (Below base w wr)) (fun _ iv _ => (intOf iv + 1).toNat)
  case atStart => exact ⟨0, by omega, by go_num, Lib.hid ⟨by simpa using HO.out, fun h => absurd h (Nat.lt_irrefl 0)⟩, Lib.hid (Below.refl _ _)⟩
  case round =>
    clear HO
    obtain ⟨j, hj, rfl, HO, HB⟩ := hrel
    by_cases hlt : j < k
    · obtain ⟨p, hp⟩ : ∃ p, p + j + 1 = k := ⟨k - 1 - j, by omega⟩
      have ep : (k : Int) - 1 - (j : Int) = (p : Int) := by omega
      have hp7 : p ≤ 7 := by omega
      have HTK := Lib.hid (numL_take n k j hlt)
      have hpk : k - 1 - j = p := by omega
      rw [hpk] at HTK
      have HLN := Lib.hid (show (l ++ (numL n k).take j).length = l.length + j by rw [List.length_append, List.length_take, numL_len]; omega)
      rw [ep]
      obtain ⟨c, hc⟩ : ∃ c : UInt8, c = UInt8.ofNat (n / 2 ^ (8 * p) % 256) := ⟨_, rfl⟩
      have e2 : IntKind.u8.wrap ((n : Int) / 2 ^ (8 * p)) = (c.toNat : Int) := by
        rw [hc, IntKind.wrap_u8, UInt8.toNat_ofNat', Nat.mod_eq_of_lt (Nat.mod_lt _ (by decide)), Int.natCast_emod, Int.natCast_ediv, Int.natCast_pow]; rfl
      rw [← hc] at HTK
      have hge : decide ((0 : Int) ≤ (p : Int)) = true := decide_eq_true (by omega)
      have e1 : IntKind.i64.wrap (8 * (p : Int)) = 8 * (p : Int) := IntWalk.i64_in _ (by omega)
      have e3 : (8 * (p : Int)).toNat = 8 * p := by omega
      have HS := Lib.hid hp
      have HEP := Lib.hid ep
      have hwb := HB.out.size
      have hll := HLL.out
      clear hp ep hlt hc hpk
      go_wp2_with (at_builtin; refine wpList_byte rfl _ _ rfl base _ _ rfl (HO.out.1.alloc _) ⟨wr.heap.size, 0, none⟩ c rfl ?c1 ?c3 ?c5 ?_)
      case c1 => exact (cell_of_row _ _ _ _ _ _ (heap_alloc_new wr _)).trans rfl
      case c3 => rw [HLN.out]; omega
      case c5 => simp; omega
      intro v' w1 hown1 hb1
      have HB1 := Lib.hid ((HB.out.alloc (Nat.le_trans hbase hwb) (.cells #[.int .u8 (c.toNat : Int)] 5)).trans hb1)
      have HO1 : Hid (BRow w1 base v' (l ++ (numL n k).take (j + 1))) := Lib.hid (by
        rw [HTK.out]
        exact hown1)
      clear HO HB hown1 hb1
      go_wp2
      go_roundw
      case rel =>
        have hp := HS.out
        exact ⟨j + 1, by omega, val_int (by omega), Lib.hid ⟨.inl HO1.out, fun _ => HO1.out⟩, HB1⟩
      case measure => (simp [intOf] <;> omega)
    · obtain rfl : j = k := by omega
      have hge : decide ((0 : Int) ≤ (j : Int) - 1 - (j : Int)) = false := decide_eq_false (by omega)
      have HF : Hid (BRow wr base u0 (l ++ numL n j)) := Lib.hid (by have := HO.out.2 hk0; rwa [List.take_of_length_le (by rw [numL_len]; omega)] at this)
      clear HO
      obtain ⟨A, ca, rfl⟩ := own_form HF.out.own
      go_wp2_with fail
      exact HP.out _ _ HF.out HB.out
set_option maxRecDepth 100000 in
set_option maxHeartbeats 1000000 in
theorem text_any (v : Value) (l : List UInt8) (s : ByteArray) (base : Nat) (w : World) (hown : BStart w base v l) (hbase : base ≤ w.heap.size) (hl : l.length ≤ 3900000) (hs : s.size ≤ 400000000) :
    Calls Tryz.prog 34 #[v, .string s] w (BPost base (l ++ textL s) w) := by
  have HP := Lib.hid (fun (v' : Value) (w' : World) (h1 : BRow w' base v' (l ++ textL s)) (h2 : Below base w w') => show BPost base (l ++ textL s) w (.returned v') w' from ⟨v', rfl, h1, h2⟩)
  generalize BPost base (l ++ textL s) w = post at *
  obtain ⟨i0, hi, hz0, hz1, hz2⟩ := info_parts infoU8
  have HI := Lib.hid hi
  have HZ0 := Lib.hid hz0
  have HZ1 := Lib.hid hz1
  have HZ2 := Lib.hid hz2
  have HNUM := Lib.hid (number_any v l s.size 4 base w hown hbase (by omega) (by omega) (by omega) (by omega))
  have HLN := Lib.hid (show (l ++ numL s.size 4).length = l.length + 4 by rw [List.length_append, numL_len])
  clear hi hz0 hz1 hz2 hown
  go_enter Tryz.func34, Tryz.ntmps34
  go_wp2_with fail
  refine HNUM.out.mono ?_
  rintro e w1 ⟨v1, rfl, hown1, hb1⟩
  have HO1 := Lib.hid hown1
  have hz1 := hb1.size
  have HB1 := Lib.hid hb1
  clear hown1 hb1
  go_wp2_with (at_builtin; refine Lib.wpList_append_own_string _ rfl _ _ 26 9 rfl base 5 i0 Tryz.underlying26 Tryz.underlying9 HI.out HZ0.out HZ1.out HZ2.out _ _ _ rfl HO1.out.own s rfl ?c3 ?c4 ?c5 ?_)
  case c3 => rw [HLN.out]; unfold maxLen; omega
  case c4 => rw [HLN.out]; omega
  case c5 => omega
  intro v2 w2 hown2 hgrow2 _
  have HB2 := Lib.hid (HB1.out.grown hgrow2 (by omega) (fun g e => (HO1.out.own.lt g e).1))
  have HO2 : Hid (BRow w2 base v2 (l ++ textL s)) := Lib.hid (by
    unfold textL
    rw [← List.append_assoc]
    unfold BRow
    rw [u8c_app _ s.data.toList, List.length_append, ← u8c_str]
    simpa using hown2)
  clear hown2 hgrow2 HO1 HB1
  obtain ⟨A, ca, rfl⟩ := own_form HO2.out.own
  go_wp2_with fail
  exact HP.out _ _ HO2.out HB2.out
end Go.Proofs.YtbniilajffjfcaaGreatDoor

/- drv: Put. -/
namespace Go.Proofs.YtbniilajffjfcaaGreatDoor
open Go.RowKit Go.BigFrame

theorem own_built (w : World) (T : TypeId) (cs : Array Value) (n : Nat) (hn : cs.size = n) (hm : n ≤ maxLen) : (w.alloc (.cells cs T)).ownsRow w.heap.size T 1 (.slice (some ⟨w.heap.size, 0, none⟩) n n) n cs.toList :=
  ⟨by simp [hn], .inr ⟨w.heap.size, n, cs, rfl, Nat.le_refl _, heap_alloc_new w _, Nat.le_refl _, hm, by simp [hn], by rw [Nat.mul_one, ← hn, List.take_of_length_le (by simp)]⟩⟩
theorem row_cellsF {w : World} {g : Nat} {T : TypeId} {cs : Array Value} {fr : Nat × Nat} (h : w.heap[g]? = some (.cells cs T fr)) : ∀ j v, cs[j]? = some v → w.cell? ((⟨g, 0, none⟩ : Addr).add j) = some v := fun j v hv => by
  have e : (⟨g, 0, none⟩ : Addr).add j = ⟨g, j, none⟩ := by unfold Addr.add; by_cases h0 : j = 0 <;> simp [h0]
  rw [e, cell_of_row _ _ _ _ _ _ h]; exact hv
theorem okP_le {s : ByteArray} (h : Nam.okP s = true) : s.size ≤ 97 := by
  unfold Nam.okP at h
  rw [Bool.and_eq_true] at h
  have h2 := h.2
  unfold Nam.rightB at h2
  rw [Bool.and_eq_true, Bool.and_eq_true, decide_eq_true_eq] at h2
  have h3 := h2.1.1.2
  unfold Nam.tailS at h3
  rw [ByteArray.size_extract] at h3
  omega
theorem right_parts {nm : ByteArray} {ins : List ByteArray} {rc : ByteArray} (h : rightD nm ins rc = true) : nm.size ≤ 60 ∧ ins.length ≤ 64 ∧ rc.size ≤ 262144 ∧ insOk ins = true := by
  unfold rightD at h
  simp only [Bool.and_eq_true, decide_eq_true_eq] at h
  exact ⟨h.1.1.1.2, h.1.1.2, h.1.2, h.2⟩
theorem insOk_at {ins : List ByteArray} (h : insOk ins = true) {k : Nat} (hk : k < ins.length) : Nam.okP (ins.getD k ⟨#[]⟩) = true := by
  unfold insOk at h
  rw [List.all_eq_true] at h
  have := h k (List.mem_range.2 hk)
  unfold inOk at this
  rw [Bool.and_eq_true] at this
  exact this.1
theorem insL_take (ins : List ByteArray) (k : Nat) (hk : k < ins.length) : insL (ins.take (k + 1)) = insL (ins.take k) ++ textL (ins.getD k ⟨#[]⟩) := by
  rw [Drv.take_snoc ins k _ (getD_at hk), insL_snoc]
theorem insL_len {ins : List ByteArray} (h : insOk ins = true) : ∀ k, k ≤ ins.length → (insL (ins.take k)).length ≤ 101 * k
  | 0, _ => by simp [insL]
  | k + 1, hk => by
    rw [insL_take ins k (by omega), List.length_append, textL_len]
    have := insL_len h k (by omega)
    have := okP_le (insOk_at h (show k < ins.length by omega))
    omega
theorem headL_len (nm : ByteArray) (n : Nat) : (headL nm n).length = 10 + nm.size := by simp [headL, magic, textL_len, numL_len]; omega
def putR (nm : ByteArray) (ins : List ByteArray) (rc : ByteArray) : List UInt8 := if rightD nm ins rc then putL nm ins rc else []
def putE (nm : ByteArray) (ins : List ByteArray) (rc : ByteArray) : Int := if rightD nm ins rc then 0 else 2
/-- A slice of the bytes l. -/
def dOf (l : List UInt8) (i : Nat) : Nat := (l.getD i 0).toNat
theorem dOf_lt (l : List UInt8) (i : Nat) : dOf l i < 256 := UInt8.toNat_lt _
theorem dOf_cells (l : List UInt8) : u8c l = cells (dOf l) l.length := by
  apply List.ext_getElem
  · simp [u8c, cells]
  · intro i h1 h2
    have hi : i < l.length := by simpa [u8c] using h1
    simp [u8c, cells, dOf, List.getD, hi]
theorem dOf_txt (l : List UInt8) : txt (dOf l) l.length = l := by
  apply List.ext_getElem
  · simp [txt]
  · intro i h1 h2
    simp [txt, dOf, List.getD, h2]
def Byt (w : World) (u : Value) (l : List UInt8) : Prop := ∃ A cap, u = .slice A l.length cap ∧ l.length ≤ cap ∧ cap ≤ maxLen ∧ Holds w w.heap.size A l.length (dOf l) ∧ (A = none → cap = 0)
theorem BRow.byt {w : World} {base : Nat} {v : Value} {l : List UInt8} (h : BRow w base v l) : Byt w v l := by
  have h' := h.own
  rw [dOf_cells] at h'
  exact own_slice h'
theorem Byt.below {w w' : World} {u : Value} {l : List UInt8} (h : Byt w u l) (hb : Below w.heap.size w w') : Byt w' u l := by
  obtain ⟨A, cap, e, h1, h2, h3, h4⟩ := h
  exact ⟨A, cap, e, h1, h2, (h3.below hb).more hb.size, h4⟩
theorem Byt.conv {w : World} {u : Value} {l : List UInt8} (h : Byt w u l) : (convert 26 9 u).run Tryz.prog w = .ok (.string (strOf l)) w := by
  obtain ⟨A, cap, rfl, h1, h2, h3, h4⟩ := h
  have := convert_holds (P := Tryz.prog) (src := 26) (dst := 9) (dOf_lt l) h3 h4 h1 Tryz.underlying26 Tryz.underlying5 Tryz.underlying9
  rw [dOf_txt] at this
  exact this
theorem str_bytes (w : World) (l : List UInt8) (hl : l.length ≤ maxLen) :
    ∃ u w2, (convert 9 26 (.string (strOf l))).run Tryz.prog w = .ok u w2 ∧ Byt w2 u l ∧ Below w.heap.size w w2 := by
  obtain ⟨cap, w2, h1, h2, h3, h4, h5, h6⟩ := bytes_of_txt (P := Tryz.prog) w 5 9 26 (dOf l) l.length (dOf_lt l) hl Tryz.underlying9 Tryz.underlying26 Tryz.underlying5
  rw [dOf_txt] at h3
  exact ⟨_, w2, h3, ⟨_, cap, rfl, h1, h2, h5, fun h => by cases h⟩, h4⟩
theorem Byt.nil (w : World) : Byt w (.slice none 0 0) [] := ⟨none, 0, rfl, Nat.le_refl _, Nat.zero_le _, fun h => absurd h (Nat.lt_irrefl 0), fun _ => rfl⟩
def BytesErr (l : List UInt8) (c : Int) (w : World) (e : Ending) (w' : World) : Prop := ∃ u, e = .returned (.tuple #[u, .int .i64 c]) ∧ Byt w' u l ∧ Below w.heap.size w w'
set_option maxRecDepth 100000 in
set_option maxHeartbeats 2000000 in
theorem put_any (nm : ByteArray) (v : Value) (ins : List ByteArray) (rc : ByteArray) (w : World) (hv : TRow w AllB v ins) (hs : Small ins) (hn : nm.size ≤ maxLen) (hr : rc.size ≤ maxLen) :
    Calls Tryz.prog 15 #[.agg #[.string nm, v, .string rc]] w (BytesErr (putR nm ins rc) (putE nm ins rc) w) := by
  obtain ⟨A, ca, rfl, hla, hma⟩ := RdS.form hv
  have HR := Lib.hid (fun (w1 : World) (h : TRow w1 AllB (.slice A ins.length ca) ins) => right_drv nm (.slice A ins.length ca) ins rc w1 h hs hn hr)
  unfold maxLen at hma hn hr
  cases hrd : rightD nm ins rc
  · have HP := Lib.hid (fun (w' : World) (h2 : Below w.heap.size w w') => show BytesErr (putR nm ins rc) (putE nm ins rc) w (.returned (.tuple #[.slice none 0 0, .int .i64 2])) w' from ⟨_, by unfold putE; rw [hrd]; rfl, by unfold putR; rw [hrd]; exact Byt.nil _, h2⟩)
    generalize BytesErr (putR nm ins rc) (putE nm ins rc) w = post at *
    rw [hrd] at HR
    have kc := fun (w : World) (C : Array Value) (n c : Nat) => Lib.run_convert_bytes_const (P := Tryz.prog) w 26 5 C n c Tryz.underlying26 Tryz.underlying5
    go_enter Tryz.func15, Tryz.ntmps15
    go_upto_region 1 with (fail)
    obtain ⟨W0, hW0, hg0, hb0, hz0, hbb⟩ := row_at w w (.cells #[.string nm, .slice A ins.length ca, .string rc] 28) (Below.refl _ _)
    rw [← hW0]
    obtain ⟨hc0, hc1, hc2⟩ := three_cells hg0
    have hload := run_loadVar_cells (P := Tryz.prog) W0 ⟨w.heap.size, 0, none⟩ 28 #[.string nm, .slice A ins.length ca, .string rc] _ (row_cells hg0) Tryz.underlying28 rfl (by kernel_rfl)
    have HB0 := Lib.hid hbb
    have HV := Lib.hid (show TRow W0 AllB (.slice A ins.length ca) ins from RdS.below hv hb0)
    clear hW0 hg0 hb0 hz0 hbb hv hrd
    go_wp2_with fail
    refine (HR.out W0 HV.out).mono ?_
    rintro e w1 ⟨rfl, hb1⟩
    have HB1 := Lib.hid (below_step HB0.out hb1 HB0.out.size)
    clear hb1
    go_wp2
    exact HP.out _ HB1.out
  · obtain ⟨hp1, hp2, hp3, hp4⟩ := right_parts hrd
    have HP := Lib.hid (fun (u : Value) (w' : World) (h1 : BRow w' w.heap.size u (putL nm ins rc)) (h2 : Below w.heap.size w w') => show BytesErr (putR nm ins rc) (putE nm ins rc) w (.returned (.tuple #[u, .int .i64 0])) w' from ⟨_, by unfold putE; rw [hrd]; rfl, by unfold putR; rw [hrd]; exact h1.byt, h2⟩)
    generalize BytesErr (putR nm ins rc) (putE nm ins rc) w = post at *
    rw [hrd] at HR
    have HIN := Lib.hid hp4
    clear hp4
    have kc := fun (w : World) (C : Array Value) (n c : Nat) => Lib.run_convert_bytes_const (P := Tryz.prog) w 26 5 C n c Tryz.underlying26 Tryz.underlying5
    go_enter Tryz.func15, Tryz.ntmps15
    go_upto_region 1 with (fail)
    obtain ⟨W0, hW0, hg0, hb0, hz0, hbb⟩ := row_at w w (.cells #[.string nm, .slice A ins.length ca, .string rc] 28) (Below.refl _ _)
    rw [← hW0]
    obtain ⟨hc0, hc1, hc2⟩ := three_cells hg0
    have hload := run_loadVar_cells (P := Tryz.prog) W0 ⟨w.heap.size, 0, none⟩ 28 #[.string nm, .slice A ins.length ca, .string rc] _ (row_cells hg0) Tryz.underlying28 rfl (by kernel_rfl)
    have HB0 := Lib.hid hbb
    have hzz : w.heap.size < W0.heap.size := by omega
    have HG := Lib.hid (fun (w1 : World) (h : Below W0.heap.size W0 w1) => three_cells ((h.block w.heap.size hzz).trans hg0))
    have HV := Lib.hid (show TRow W0 AllB (.slice A ins.length ca) ins from RdS.below hv hb0)
    clear hW0 hg0 hb0 hz0 hbb hv hrd
    go_wp2_with fail
    refine (HR.out W0 HV.out).mono ?_
    rintro e w1 ⟨rfl, hb1⟩
    have HB1 := Lib.hid hb1
    obtain ⟨hd0, hd1, hd2⟩ := HG.out w1 hb1
    have hs1 := hb1.size
    clear hb1 hload hc0 hc1 hc2
    obtain ⟨W1, hW1, hg1, hb1', hz1, hbb1⟩ := row_at W0 w1 (.cells #[.int .u8 68, .int .u8 82, .int .u8 86, .int .u8 49] 5 (4, 5)) HB1.out
    have HO1 : Hid (BStart W1 W0.heap.size (.slice (some ⟨w1.heap.size, 0, none⟩) 4 4) magic) := Lib.hid (.inr ⟨by decide, _, rfl, fun j u hu => row_cellsF hg1 j u (by rw [← Array.getElem?_toList]; exact hu)⟩)
    have HT1 := Lib.hid (text_any _ magic nm W0.heap.size W1 HO1.out (by omega) (by decide) (by omega))
    have HBB1 := Lib.hid hbb1
    obtain ⟨hd0', hd1', hd2'⟩ := HG.out W1 hbb1
    clear hg1 hb1' hbb1
    have hlt1 : w.heap.size < w1.heap.size := by omega
    go_wp2_with fail
    rw [← hW1]
    refine HT1.out.mono ?_
    rintro e w2 ⟨v2, rfl, hown2, hb2⟩
    have HB2 := Lib.hid (HBB1.out.trans hb2)
    have HN2 := Lib.hid (number_any v2 _ ins.length 2 W0.heap.size w2 (.inl hown2) (by have := HBB1.out.size; have := hb2.size; omega) (by rw [List.length_append, textL_len]; simp [magic]; omega) (by omega) (by omega) (by omega))
    obtain ⟨he0, he1, he2⟩ := HG.out w2 HB2.out
    clear hb2 hown2 hW1 hd0 hd1 hd2 hd0' hd1' hd2' hlt1
    go_wp2_with fail
    refine HN2.out.mono ?_
    rintro e w3 ⟨v3, rfl, hown3, hb3⟩
    have HB3 := Lib.hid (HB2.out.trans hb3)
    have HO3 := Lib.hid hown3
    obtain ⟨hf0, hf1, hf2⟩ := HG.out w3 HB3.out
    clear hb3 hown3 he0 he1 he2 HN2 HT1 HO1
    go_wp2
    go_loopw [4, 23] (fun bv iv wr => ∃ k : Nat, k ≤ ins.length ∧ iv = .int .i64 k ∧ Hid (BRow wr W0.heap.size bv (headL nm ins.length ++ insL (ins.take k))) ∧ Hid (Below W0.heap.size W0 wr)) (fun _ iv _ => ins.length - (intOf iv).toNat)
    case atStart => exact ⟨0, by omega, rfl, Lib.hid (by simpa [insL, headL] using HO3.out), HB3⟩
    case round =>
      clear hf0 hf1 hf2 HO3
      obtain ⟨k, hk, rfl, HO, HB⟩ := hrel
      have hle := insL_len HIN.out k hk
      have hhl := headL_len nm ins.length
      have hbr := HB.out.size
      by_cases hlt : k < ins.length
      · obtain ⟨ad, rfl, hcx⟩ := TRow.get (RdS.below HV.out HB.out) k hlt
        have HT := Lib.hid (text_any _ _ (ins.getD k ⟨#[]⟩) W0.heap.size wr (.inl HO.out) hbr (by rw [List.length_append]; omega) (by have := okP_le (insOk_at HIN.out hlt); omega))
        rw [List.append_assoc, ← insL_take ins k hlt] at HT
        have hk' : (k : Int) < (ins.length : Int) := by omega
        generalize ins.getD k ⟨#[]⟩ = s at *
        clear hle hhl
        go_wp2_with fail
        refine HT.out.mono ?_
        rintro e w4 ⟨v4, rfl, hown4, hb4⟩
        have HO4 := Lib.hid hown4
        have HB4 := Lib.hid (HB.out.trans hb4)
        clear hown4 hb4
        go_wp2
        go_roundw
        case rel => exact ⟨k + 1, by omega, by go_num, HO4, HB4⟩
        case measure => simp [intOf]; omega
      · have HT := Lib.hid (text_any _ _ rc W0.heap.size wr (.inl HO.out) hbr (by rw [List.length_append]; omega) (by omega))
        rw [List.take_of_length_le (by omega)] at HT
        obtain ⟨hf0, hf1, hf2⟩ := HG.out wr HB.out
        clear hle hhl
        go_wp2_with fail
        refine HT.out.mono ?_
        rintro e w4 ⟨v4, rfl, hown4, hb4⟩
        have HO4 : Hid (BRow w4 w.heap.size v4 (putL nm ins rc)) := Lib.hid (own_base hown4 (Nat.le_of_lt hzz))
        have HB4 := Lib.hid (HB0.out.trans ((HB.out.trans hb4).mono HB0.out.size))
        clear hown4 hb4
        obtain ⟨A4, c4, rfl⟩ := own_form HO4.out.own
        go_wp2
        exact HP.out _ _ HO4.out HB4.out
end Go.Proofs.YtbniilajffjfcaaGreatDoor
