/- archive: the package's reader: must, take. -/
import Derived.Test.YtcleebigfbbdbaaAmJ
set_option linter.unusedVariables false
set_option linter.unusedSimpArgs false
namespace Go.Proofs.Ytcleebigfbbdbaa
open Go Go.RowKit Go.BigFrame
open Fil (Es Nd Sp)
open Arc (BL num4 num2 encT letK encE encN sizE sizN rfN rdN rfE rdE rdT rd2 beN)

def noCh : List PanicEntry := [{ v := .iface 51 (.agg #[]), recovered := false }]
/-- The reader's box. -/
def Rdr (w : World) (g : Nat) (l : BL) (n : Nat) : Prop := w.heap[g]? = some (.cells #[.string (strOf l), .int .i64 (n : Int)] 54 (0, 0))
def One (g k : Nat) : Prop := k = g
theorem two_box {W : World} {g : Nat} {v u : Value} {T : TypeId} (h : W.heap[g]? = some (.cells #[v, u] T (0, 0))) : W.cell? ⟨g, 0, none⟩ = some v ∧ W.cell? ⟨g, 1, none⟩ = some u ∧ W.frozen? ⟨g, 0, none⟩ = false ∧ W.frozen? ⟨g, 1, none⟩ = false := by
  refine ⟨?_, ?_, frozen_of_row _ _ _ _ _ h, frozen_of_row _ _ _ _ _ h⟩
  · rw [cell_of_row _ _ _ _ _ _ h]; rfl
  · rw [cell_of_row _ _ _ _ _ _ h]; rfl
theorem amust_true (w : World) : Calls Try.prog 31 #[.bool true] w fun e W => W = w ∧ ∃ v, e = .returned v := by
  go_enter Try.func31, Try.ntmps31
  go_wp2
  go_end0
  exact ⟨rfl, _, rfl⟩
theorem amust_false (w : World) : Calls Try.prog 31 #[.bool false] w fun e W => W = w ∧ e = .panicked noCh := by
  go_enter Try.func31, Try.ntmps31
  go_wp2
  exact ⟨rfl, rfl, rfl⟩
theorem str_head (l : BL) (m : Nat) : (strOf l).extract 0 m = strOf (l.take m) := by
  apply str_ext
  rw [seg_data]
  simp [strOf]
theorem str_tail (l : BL) (m : Nat) : (strOf l).extract m (strOf l).size = strOf (l.drop m) := by
  apply str_ext
  rw [seg_data, strOf_size]
  simp [strOf]
  rw [List.take_of_length_le (by rw [List.length_drop]; omega)]
def TkPost (w : World) (g : Nat) (l : BL) (n m : Nat) (e : Ending) (W : World) : Prop :=
  Ch w W (One g) ∧ ((m ≤ l.length ∧ e = .returned (.string (strOf (l.take m))) ∧ Rdr W g (l.drop m) n) ∨ (l.length < m ∧ e = .panicked noCh))
set_option maxRecDepth 1000000 in
set_option maxRecDepth 100000 in
set_option maxHeartbeats 2000000 in
theorem take_any (w : World) (g : Nat) (l : BL) (n m : Nat) (h : Rdr w g l n) (hm : m ≤ 9000000000000000000) :
    Calls Try.prog 32 #[.pointer (some ⟨g, 0, none⟩), .int .i64 (m : Int)] w (TkPost w g l n m) := by
  obtain ⟨h0, h1, h2, h3⟩ := two_box h
  have HR := Lib.hid h
  clear h
  go_enter Try.func32, Try.ntmps32
  rcases Nat.lt_or_ge l.length m with hlt | hle
  · have hI : decide (m ≤ (strOf l).size) = false := decide_eq_false (by rw [strOf_size]; omega)
    go_wp2_with (first | (refine (amust_false _).mono ?_; intro eQ WQ hQ; obtain ⟨hQ1, hQ2⟩ := hQ; have hQ3 := hQ1.symm; subst hQ3; subst hQ2))
    all_goals exact ⟨rfl, Ch.refl _ _, .inr ⟨hlt, rfl⟩⟩
  · have hI : decide ((m : Int) ≤ (l.length : Int)) = true := decide_eq_true (by omega)
    have hle' : m ≤ (strOf l).size := by rw [strOf_size]; exact hle
    go_wp2_with (first | (refine (amust_true _).mono ?_; intro eQ WQ hQ; obtain ⟨hQ1, vQ, hQ2⟩ := hQ; have hQ3 := hQ1.symm; subst hQ3; subst hQ2))
    go_wp2
    go_ret
    refine ⟨(Ch.refl w (One g)).setCell (p := ⟨g, 0, none⟩) rfl _, .inl ⟨hle, by rw [str_head]; rfl, ?_⟩⟩
    rw [str_tail]
    exact Go.Joins.block_setCell (i := 0) HR.out _
end Go.Proofs.Ytcleebigfbbdbaa

/- archive: the package's reader: number. -/
namespace Go.Proofs.Ytcleebigfbbdbaa
open Go Go.RowKit Go.BigFrame
open Fil (Es Nd Sp)
open Arc (BL num4 num2 encT letK encE encN sizE sizN rfN rdN rfE rdE rdT rd2 beN)

theorem or_byte {b x : Nat} (hb : b < 16777216) (hx : x < 256) : bits .or .i64 ((b : Int) * 256) (x : Int) = (b : Int) * 256 + (x : Int) := by
  have e40 : (2 : Int) ^ 40 = 1099511627776 := by decide
  have e8 : (2 : Int) ^ 8 = 256 := by decide
  refine bits_join .i64 40 (by decide) (fun n h0 h1 => ?_) 8 ((b : Int) * 256) (x : Int) ?_ ?_ ?_ ?_ ?_ ?_
  · rw [e40] at h1; exact IntWalk.i64_in n (by omega)
  · omega
  · rw [e8]; omega
  · rw [e40]; omega
  · omega
  · rw [e8]; omega
  · rw [e40]; omega
def NmPost (w : World) (g : Nat) (l : BL) (n m : Nat) (e : Ending) (W : World) : Prop :=
  Ch w W (One g) ∧ ((m ≤ l.length ∧ e = .returned (.int .i64 (beN (l.take m) : Int)) ∧ Rdr W g (l.drop m) n) ∨ (l.length < m ∧ e = .panicked noCh))
theorem beN_snoc (a : BL) (c : UInt8) : beN (a ++ [c]) = beN a * 256 + c.toNat := by unfold Arc.beN; rw [List.foldl_append]; rfl
theorem beN_lt : ∀ (i : Nat) (l : BL), l.length = i → beN l < 256 ^ i
  | 0, l, h => by rw [List.eq_nil_of_length_eq_zero h]; decide
  | i + 1, l, h => by
    have hd : l = l.take i ++ l.drop i := (List.take_append_drop i l).symm
    obtain ⟨c, hc⟩ : ∃ c, l.drop i = [c] := by
      have : (l.drop i).length = 1 := by rw [List.length_drop]; omega
      match hl : l.drop i, this with
      | [c], _ => exact ⟨c, rfl⟩
    rw [hc] at hd
    have ih := beN_lt i (l.take i) (by rw [List.length_take]; omega)
    rw [hd, beN_snoc, Nat.pow_succ]
    have := c.toNat_lt
    omega
set_option maxRecDepth 1000000 in
set_option maxRecDepth 100000 in
set_option maxHeartbeats 4000000 in
theorem number_any (w : World) (g : Nat) (l : BL) (n m : Nat) (h : Rdr w g l n) (hm : m ≤ 4) :
    Calls Try.prog 54 #[.pointer (some ⟨g, 0, none⟩), .int .i64 (m : Int)] w (NmPost w g l n m) := by
  have HT := Lib.hid (take_any w g l n m h (by omega))
  clear h
  go_enter Try.func54, Try.ntmps54
  go_wp2_with (refine HT.out.mono ?_; rintro e W ⟨hch, (⟨hle, rfl, hrd⟩ | ⟨hlt, rfl⟩)⟩)
  rotate_left
  · exact ⟨rfl, hch, .inr ⟨hlt, rfl⟩⟩
  have hlen : (l.take m).length = m := by rw [List.length_take]; omega
  have hcv := bytes_conv W (l.take m) (by rw [hlen]; unfold maxLen; omega)
  obtain ⟨A, cap, W2, hcv1, hb2, hby⟩ := hcv
  rw [hlen] at hcv1 hby
  have HRD := Lib.hid (show Rdr W2 g (l.drop m) n from (hb2.block _ (block_lt hrd)).trans hrd)
  have HCH := Lib.hid (hch.trans (Ch.of_below hb2 (One g) (fun k h1 h2 => absurd h1 (by omega))) (fun k _ hk => hk))
  have HBY := Lib.hid hby
  have HLE := Lib.hid (And.intro hle hlen)
  clear hb2 hby hrd hch hle
  go_wp2
  rw [hcv1]
  clear hcv1
  go_wp2
  go_loopg [5, 13] m (fun k u5 u13 wx => ∃ i : Nat, u13 = .int .i64 (i : Int) ∧ u5 = .int .i64 (beN ((l.take m).take i) : Int) ∧ i + k = m ∧ wx = W2)
  case atStart => exact ⟨0, rfl, rfl, by omega, rfl⟩
  case round =>
    obtain ⟨i, rfl, rfl, hig, rfl⟩ := hrel
    cases gk with
    | zero =>
      obtain rfl : i = m := by omega
      have HTK := Lib.hid (show (l.take i).take i = l.take i by rw [List.take_take, Nat.min_self])
      go_wp2
      go_ret
      exact ⟨HCH.out, .inl ⟨HLE.out.1, by rw [HTK.out]; rfl, HRD.out⟩⟩
    | succ q =>
      have him : i < m := by omega
      have hBY : BytAt wr wr.heap.size (.slice A (l.take m).length cap) (l.take m) := by rw [HLE.out.2]; exact HBY.out
      obtain ⟨ab, ao, cap', he, hcap, hcm, hab, hcs⟩ := hBY.cells (by rw [HLE.out.2]; omega)
      injection he with he1 _ he2
      subst he1
      subst he2
      obtain ⟨c, hc⟩ : ∃ c, (l.take m)[i]? = some c := ⟨_, List.getElem?_eq_getElem (by rw [HLE.out.2]; exact him)⟩
      have hcell := hcs i c hc
      have HST := Lib.hid (show (l.take m).take (i + 1) = (l.take m).take i ++ [c] by rw [List.take_add_one, hc]; rfl)
      have hlt := beN_lt i ((l.take m).take i) (by rw [List.length_take, HLE.out.2]; omega)
      have hpw : 256 ^ i ≤ 16777216 := by
        have : i ≤ 3 := by omega
        match i, this with
        | 0, _ => decide
        | 1, _ => decide
        | 2, _ => decide
        | 3, _ => decide
      obtain ⟨b, hb⟩ : ∃ b, b = beN ((l.take m).take i) := ⟨_, rfl⟩
      rw [← hb] at hlt
      rw [← hb]
      have hx := c.toNat_lt
      have HBX := Lib.hid hb
      obtain ⟨x, hxx⟩ : ∃ x, x = c.toNat := ⟨_, rfl⟩
      rw [← hxx] at hcell hx
      have hw1 : IntKind.i64.wrap ((i : Int) + 1) = (i : Int) + 1 := IntWalk.i64_in _ (by omega)
      have hiI : (i : Int) < (m : Int) := by omega
      have hi0 : (0 : Int) ≤ (i : Int) := by omega
      have hcx := wrap_byte hx
      have hb16 : b < 16777216 := by omega
      clear hcs hc hBY hb hlt hpw
      have hor := or_byte hb16 hx
      rw [hxx] at hor
      go_wp2
      go_roundg q
      case measure => omega
      case rel => exact ⟨i + 1, by simp, by rw [HST.out, beN_snoc, ← HBX.out, ← hxx]; simp, by omega, rfl⟩
end Go.Proofs.Ytcleebigfbbdbaa

/- archive: the package's reader: text. -/
namespace Go.Proofs.Ytcleebigfbbdbaa
open Go Go.RowKit Go.BigFrame
open Fil (Es Nd Sp)
open Arc (BL num4 num2 encT letK encE encN sizE sizN rfN rdN rfE rdE rdT rd2 beN)

def TxPost (w : World) (g : Nat) (l : BL) (n : Nat) (e : Ending) (W : World) : Prop :=
  Ch w W (One g) ∧ match rdT l with
  | some (s, r) => e = .returned (.string s) ∧ Rdr W g r n
  | none => e = .panicked noCh
set_option maxRecDepth 1000000 in
set_option maxRecDepth 100000 in
set_option maxHeartbeats 4000000 in
theorem rtext_any (w : World) (g : Nat) (l : BL) (n : Nat) (hl : l.length ≤ 10000000) (h : Rdr w g l n) :
    Calls Try.prog 45 #[.pointer (some ⟨g, 0, none⟩)] w (TxPost w g l n) := by
  have HN := Lib.hid (fun w' (hc : Ch w w' (One g)) (hr : Rdr w' g l n) => number_any w' g l n 4 hr (by omega))
  have HT := Lib.hid (fun w' (hr : Rdr w' g (l.drop 4) n) => take_any w' g (l.drop 4) n (beN (l.take 4)) hr (by
    have := beN_lt _ (l.take 4) rfl
    have h4 : (l.take 4).length ≤ 4 := by rw [List.length_take]; omega
    have : 256 ^ (l.take 4).length ≤ 256 ^ 4 := Nat.pow_le_pow_right (by decide) h4
    omega))
  have HR := Lib.hid h
  clear h
  go_enter Try.func45, Try.ntmps45
  have HL4 := Lib.hid hl
  clear hl
  go_wp2_with fail
  refine (HN.out w (Ch.refl _ _) HR.out).mono ?_
  rintro e W ⟨hch, (⟨hle, rfl, hrd⟩ | ⟨hlt, rfl⟩)⟩
  rotate_left
  · refine ⟨rfl, hch, ?_⟩
    rw [show rdT l = none by unfold Arc.rdT; rw [if_neg (by omega)]]
  have HCH := Lib.hid hch
  have HLE := Lib.hid hle
  have HRD := Lib.hid hrd
  clear hch hle hrd
  go_wp2_with fail
  refine (HT.out W HRD.out).mono ?_
  rintro e W2 ⟨hch, (⟨hle, rfl, hrd⟩ | ⟨hlt, rfl⟩)⟩
  rotate_left
  · refine ⟨rfl, HCH.out.trans hch (fun k _ hk => hk), ?_⟩
    rw [show rdT l = none by unfold Arc.rdT; rw [if_pos HLE.out, if_neg (by omega)]]
  have HRT := Lib.hid (show rdT l = some (strOf ((l.drop 4).take (beN (l.take 4))), (l.drop 4).drop (beN (l.take 4))) by unfold Arc.rdT; rw [if_pos HLE.out, if_pos hle])
  have HCH2 := Lib.hid (HCH.out.trans hch (fun k _ hk => hk))
  have HRD2 := Lib.hid hrd
  have hlen : ((l.drop 4).take (beN (l.take 4))).length ≤ maxLen := by rw [List.length_take, List.length_drop]; have := HL4.out; unfold maxLen; omega
  clear hch hle hrd
  obtain ⟨t, ht⟩ : ∃ t, t = (l.drop 4).take (beN (l.take 4)) := ⟨_, rfl⟩
  rw [← ht] at hlen
  have HTT := Lib.hid ht
  rw [← ht]
  clear ht
  obtain ⟨A, cap, W3, hcv1, hb3, hby⟩ := bytes_conv W2 t hlen
  have hcv2 := hby.conv
  have HRD3 := Lib.hid (show Rdr W3 g ((l.drop 4).drop (beN (l.take 4))) n from (hb3.block _ (block_lt HRD2.out)).trans HRD2.out)
  have HCH3 := Lib.hid (HCH2.out.trans (Ch.of_below hb3 (One g) (fun k h1 h2 => absurd h1 (by omega))) (fun k _ hk => hk))
  clear hb3 hby
  go_wp2
  go_ret
  refine ⟨HCH3.out, ?_⟩
  rw [HRT.out, ← HTT.out]
  exact ⟨rfl, HRD3.out⟩
end Go.Proofs.Ytcleebigfbbdbaa

/- archive: the package's reader: entries, between two rounds. -/
namespace Go.Proofs.Ytcleebigfbbdbaa
open Go Go.RowKit Go.BigFrame
open Fil (Es Nd Sp)
open Arc (BL num4 num2 encT letK encE encN sizE sizN rfN rdN rfE rdE rdT rd2 beN)

def NPost (w : World) (g : Nat) (r : Option (Nd × BL × Nat)) (e : Ending) (W : World) : Prop :=
  Ch w W (One g) ∧ match r with
  | none => e = .panicked noCh
  | some p => p.2.1.length ≤ 10000000 ∧ p.2.2 ≤ 4096 ∧ Rdr W g p.2.1 p.2.2 ∧ ∃ v, e = .returned v ∧ NdS W (Nw w W) v p.1
def dirD (f : Nat) (b : BL) (n : Nat) : Option (Es × BL × Nat) := match rd2 b with
  | none => none
  | some (k, b2) => rdE (rdN f) k b2 n
def EPost (w : World) (g : Nat) (r : Option (Es × BL × Nat)) (e : Ending) (W : World) : Prop :=
  Ch w W (One g) ∧ match r with
  | none => e = .panicked noCh
  | some p => p.2.1.length ≤ 10000000 ∧ p.2.2 ≤ 4096 ∧ Rdr W g p.2.1 p.2.2 ∧ ∃ v, e = .returned v ∧ EsS W (Nw w W) v p.1
structure EnM (w wx : World) (g i : Nat) (done : Es) (vs : Value) : Prop where
  own : ∃ xs, wx.ownsRow w.heap.size 42 4 vs i xs ∧ EntS wx (fun b => w.heap.size ≤ b ∧ b < wx.heap.size ∧ vs.ownBlock ≠ some b) done xs
  len : done.len = i
  ch : Ch w wx (One g)
  lt : g < w.heap.size
theorem EnM.keep {w wx W : World} {g : Nat} (hc : Ch wx W (One g)) (hg : g < w.heap.size) {vs : Value} (b : Nat) (hb : w.heap.size ≤ b ∧ b < wx.heap.size ∧ vs.ownBlock ≠ some b) : (w.heap.size ≤ b ∧ b < W.heap.size ∧ vs.ownBlock ≠ some b) ∧ W.heap[b]? = wx.heap[b]? :=
  ⟨⟨hb.1, Nat.lt_of_lt_of_le hb.2.1 hc.size, hb.2.2⟩, hc.block b hb.2.1 (fun e => by have : b = g := e; omega)⟩
theorem EnM.step {w wx W : World} {g i : Nat} {done : Es} {vs : Value} (h : EnM w wx g i done vs) (hc : Ch wx W (One g)) : EnM w W g i done vs := by
  obtain ⟨xs, h1, h2⟩ := h.own
  refine ⟨⟨xs, hc.own h1 (fun b hb e => ?_), h2.keep fun b hb => EnM.keep hc h.lt b hb⟩, h.len, h.ch.trans hc (fun k _ hk => hk), h.lt⟩
  have : b = g := e
  have := (h1.lt b hb).1
  have := h.lt
  omega
theorem EnM.es {w wx : World} {g i : Nat} {done : Es} {vs : Value} (h : EnM w wx g i done vs) : EsS wx (Nw w wx) vs done := by
  obtain ⟨xs, h1, h2⟩ := h.own
  exact ownS_cells h1 h.len.symm (h2.keep fun b hs => ⟨⟨hs.1, hs.2.1⟩, rfl⟩) fun b hb => ⟨(h1.lt b hb).1, (h1.lt b hb).2⟩
theorem EnM.start (w : World) (g : Nat) (W : World) (hc : Ch w W (One g)) (hg : g < w.heap.size) : EnM w W g 0 .nil (.slice none 0 0) :=
  ⟨⟨[], ⟨rfl, .inl ⟨rfl, rfl⟩⟩, rfl⟩, rfl, hc, hg⟩
theorem EnM.push {w W w1 : World} {g0 i : Nat} {done : Es} {vs sv : Value} {s : ByteArray} {y : Nd} {Q : Nat → Prop} {xs : List Value} {g cap : Nat} {o : Obj}
    (h : EnM w W g0 i done vs) (hx : W.ownsRow w.heap.size 42 4 vs i xs) (hent : EntS W (fun b => w.heap.size ≤ b ∧ b < W.heap.size ∧ vs.ownBlock ≠ some b) done xs)
    (hs : s.size ≤ maxLen) (hy : EsS W Q sv y.es) (hQ : ∀ b, Q b → w.heap.size ≤ b ∧ b < W.heap.size ∧ vs.ownBlock ≠ some b) (hyd : y.d.size ≤ maxLen) (hyk : y.k < 256)
    (hown1 : w1.ownsRow w.heap.size 42 4 (.slice (some ⟨g, 0, none⟩) (i + 1) cap) (i + 1) (xs ++ [.string s, .int .u8 (y.k : Int), .string y.d, sv])) (hg : (W.alloc o).grownBy w1 vs.ownBlock) (hat : vs.ownBlock = some g ∨ g = (W.alloc o).heap.size) :
    EnM w w1 g0 (i + 1) (appE done (.cons s y.k y.d y.es .nil)) (.slice (some ⟨g, 0, none⟩) (i + 1) cap) ∧ Ch W w1 (fun b => vs.ownBlock = some b) := by
  have hgz := hg.size
  have hal : (W.alloc o).heap.size = W.heap.size + 1 := by simp
  rw [hal] at hgz hat
  have hbase : ∀ b, vs.ownBlock = some b → w.heap.size ≤ b := fun b hb => (hx.lt b hb).1
  have hblk : ∀ b, b < W.heap.size → vs.ownBlock ≠ some b → w1.heap[b]? = W.heap[b]? := fun b hb hn => (hg.block b (by rw [hal]; omega) (fun e => hn e.symm)).trans (old_block _ _ _ hb)
  have hkeep : ∀ b, (w.heap.size ≤ b ∧ b < W.heap.size ∧ vs.ownBlock ≠ some b) → (w.heap.size ≤ b ∧ b < w1.heap.size ∧ (Value.slice (some ⟨g, 0, none⟩) (i + 1) cap).ownBlock ≠ some b) ∧ w1.heap[b]? = W.heap[b]? := fun b hb => by
    refine ⟨⟨hb.1, by omega, fun e => ?_⟩, hblk b hb.2.1 hb.2.2⟩
    have e' : g = b := by simpa [Value.ownBlock] using e
    rcases hat with ha | ha
    · exact hb.2.2 (by rw [ha, e'])
    · omega
  have hch : Ch W w1 (fun b => vs.ownBlock = some b) := ((Ch.refl W _).alloc o).grown hg (fun k _ e => e)
  refine ⟨⟨⟨xs ++ [.string s, .int .u8 (y.k : Int), .string y.d, sv], hown1, ?_⟩, ?_, h.ch.trans hch (fun k hk e => by have := hbase k e; omega), h.lt⟩, hch⟩
  · exact EntS.app (hent.keep hkeep) ⟨sv, [], rfl, hs, hyd, hyk, hy.keep fun b hb => hkeep b (hQ b hb), rfl⟩
  · rw [app_len1, h.len]
/-- What is left to read. -/
def EnR (f cnt : Nat) (b2 : BL) (n i : Nat) (done : Es) (rest : BL) (nn : Nat) : Prop :=
  rdE (rdN f) cnt b2 n = (match rdE (rdN f) (cnt - i) rest nn with | none => none | some p => some (appE done p.1, p.2)) ∧ i ≤ cnt ∧ rest.length ≤ 10000000 ∧ nn ≤ 4096
theorem EnR.start (f cnt : Nat) (b2 : BL) (n : Nat) (hl : b2.length ≤ 10000000) (hn : n ≤ 4096) : EnR f cnt b2 n 0 .nil b2 n := by
  refine ⟨?_, Nat.zero_le _, hl, hn⟩
  rw [Nat.sub_zero]
  cases rdE (rdN f) cnt b2 n with
  | none => rfl
  | some p => rfl
theorem EnR.done {f cnt : Nat} {b2 : BL} {n : Nat} {done : Es} {rest : BL} {nn : Nat} (h : EnR f cnt b2 n cnt done rest nn) : rdE (rdN f) cnt b2 n = some (done, rest, nn) := by
  rw [h.1, Nat.sub_self]
  show some (appE done .nil, rest, nn) = _
  rw [app_nil]
theorem EnR.fail1 {f cnt : Nat} {b2 : BL} {n i : Nat} {done : Es} {rest : BL} {nn : Nat} (h : EnR f cnt b2 n i done rest nn) (hi : i < cnt) (hT : rdT rest = none) : rdE (rdN f) cnt b2 n = none := by
  rw [h.1, show cnt - i = (cnt - (i + 1)) + 1 by omega]
  show (match (match rdT rest with | none => none | some (s, b2) => match rdN f b2 nn with | none => none | some (y, b3, n3) => match rdE (rdN f) (cnt - (i + 1)) b3 n3 with | none => none | some (es, b4, n4) => some (Es.cons s y.k y.d y.es es, b4, n4)) with | none => none | some p => some (appE done p.1, p.2)) = _
  rw [hT]
theorem EnR.fail2 {f cnt : Nat} {b2 : BL} {n i : Nat} {done : Es} {rest r2 : BL} {nn : Nat} {s : ByteArray} (h : EnR f cnt b2 n i done rest nn) (hi : i < cnt) (hT : rdT rest = some (s, r2)) (hN : rdN f r2 nn = none) : rdE (rdN f) cnt b2 n = none := by
  rw [h.1, show cnt - i = (cnt - (i + 1)) + 1 by omega]
  show (match (match rdT rest with | none => none | some (s, b2) => match rdN f b2 nn with | none => none | some (y, b3, n3) => match rdE (rdN f) (cnt - (i + 1)) b3 n3 with | none => none | some (es, b4, n4) => some (Es.cons s y.k y.d y.es es, b4, n4)) with | none => none | some p => some (appE done p.1, p.2)) = _
  rw [hT]
  simp only []
  rw [hN]
theorem EnR.next {f cnt : Nat} {b2 : BL} {n i : Nat} {done : Es} {rest r2 r3 : BL} {nn n3 : Nat} {s : ByteArray} {y : Nd} (h : EnR f cnt b2 n i done rest nn) (hi : i < cnt) (hT : rdT rest = some (s, r2)) (hN : rdN f r2 nn = some (y, r3, n3)) (hl : r3.length ≤ 10000000) (hn : n3 ≤ 4096) : EnR f cnt b2 n (i + 1) (appE done (.cons s y.k y.d y.es .nil)) r3 n3 := by
  refine ⟨?_, by omega, hl, hn⟩
  rw [h.1, show cnt - i = (cnt - (i + 1)) + 1 by omega]
  show (match (match rdT rest with | none => none | some (s, b2) => match rdN f b2 nn with | none => none | some (y, b3, n3) => match rdE (rdN f) (cnt - (i + 1)) b3 n3 with | none => none | some (es, b4, n4) => some (Es.cons s y.k y.d y.es es, b4, n4)) with | none => none | some p => some (appE done p.1, p.2)) = _
  rw [hT]
  simp only []
  rw [hN]
  simp only []
  cases rdE (rdN f) (cnt - (i + 1)) r3 n3 with
  | none => rfl
  | some p =>
    simp only []
    rw [app_assoc]
    rfl
theorem rdT_len {b r : BL} {s : ByteArray} (h : rdT b = some (s, r)) : s.size + r.length ≤ b.length := by
  rw [Arc.rdT_inv h, List.length_append, Arc.encT_len]
  omega
end Go.Proofs.Ytcleebigfbbdbaa
