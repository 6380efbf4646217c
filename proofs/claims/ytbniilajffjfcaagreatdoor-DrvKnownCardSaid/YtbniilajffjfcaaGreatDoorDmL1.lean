/- drv: the reader: take, number, text. -/
import Derived.Test.YtbniilajffjfcaaGreatDoorDmK1
import Derived.Lib.EndianBits
import Derived.Test.YtbniilajffjfcaaGreatDoorShelf
import Derived.Deep.RegionLaw
set_option linter.unusedVariables false
set_option linter.unusedSimpArgs false
namespace Go.Proofs.YtbniilajffjfcaaGreatDoor
open Go.RowKit Go.BigFrame

theorem strOf_toList (l : List UInt8) : (strOf l).data.toList = l := by simp [strOf]
theorem strOf_head (l : List UInt8) (n : Nat) : (strOf l).extract 0 n = strOf (l.take n) := by
  apply str_ext; simp [strOf]
theorem strOf_tail (l : List UInt8) (n : Nat) : (strOf l).extract n (strOf l).size = strOf (l.drop n) := by
  apply str_ext
  rw [strOf_size]
  simp [strOf]
  rw [List.take_of_length_le (by simp)]
theorem strOf_nil : strOf [] = ⟨#[]⟩ := rfl
/-- A reader in block g: what is left, and whether it is bad. -/
def Rd (w : World) (g : Nat) (l : List UInt8) (bad : Bool) : Prop := w.heap[g]? = some (.cells #[.string (strOf l), .bool bad] 67 (0, 0))
def TakeP (g : Nat) (l : List UInt8) (bad : Bool) (n : Nat) (w : World) (e : Ending) (w' : World) : Prop :=
  Ch w w' (fun b => b = g) ∧ (if bad = false ∧ n ≤ l.length then e = .returned (.string (strOf (l.take n))) ∧ Rd w' g (l.drop n) false else e = .returned (.string ⟨#[]⟩) ∧ Rd w' g l true)
set_option maxRecDepth 100000 in
set_option maxHeartbeats 1000000 in
theorem take_any (g : Nat) (l : List UInt8) (bad : Bool) (n : Nat) (w : World) (H : Rd w g l bad) (hl : l.length ≤ 1000000000) (hn : n ≤ 9223372036854775807) :
    Calls Tryz.prog 70 #[.pointer (some ⟨g, 0, none⟩), .int .i64 (n : Int)] w (TakeP g l bad n w) := by
  obtain ⟨hc0, hc1, hf0, hf1⟩ := cell_two H
  have HS := Lib.hid (strOf_size l)
  by_cases h : bad = false ∧ n ≤ l.length
  · obtain ⟨rfl, h⟩ := h
    have hw0 : (w.setCell ⟨g, 0, none⟩ (.string (strOf (l.drop n)))).heap[g]? = some (.cells #[.string (strOf (l.drop n)), .bool false] 67 (0, 0)) := blk_set H 0 _
    have HP := Lib.hid (show TakeP g l false n w (.returned (.string (strOf (l.take n)))) (w.setCell ⟨g, 0, none⟩ (.string (strOf (l.drop n)))) from ⟨(Ch.refl w (fun b => b = g)).setCell (p := ⟨g, 0, none⟩) (by rfl) _, by rw [if_pos ⟨rfl, h⟩]; exact ⟨rfl, hw0⟩⟩)
    generalize TakeP g l false n w = post at *
    have hx1 := strOf_head l n
    have hx2 := strOf_tail l n
    have hsz : (strOf l).size = l.length := HS.out
    have hnz : (n : Int) ≤ ((strOf l).size : Int) := by rw [hsz]; omega
    have hlz : ((strOf l).size : Int) ≤ 1000000000 := by rw [hsz]; omega
    have hng : ¬ ((strOf l).size : Int) < (n : Int) := by omega
    have hngn : ¬ (strOf l).size < n := by omega
    have hn2 : n ≤ (strOf l).size := by omega
    have hx3 : (strOf l).extract n (strOf l).size = strOf (l.drop n) := hx2
    clear hw0 hsz H HS
    generalize strOf (l.take n) = p at *
    generalize strOf (l.drop n) = q at *
    generalize strOf l = s at *
    clear hx3 h hl
    go_enter Tryz.func70, Tryz.ntmps70
    go_wp2
    exact HP.out
  · have hw0 : (w.setCell ⟨g, 1, none⟩ (.bool true)).heap[g]? = some (.cells #[.string (strOf l), .bool true] 67 (0, 0)) := blk_set H 1 _
    have HP := Lib.hid (show TakeP g l bad n w (.returned (.string ⟨#[]⟩)) (w.setCell ⟨g, 1, none⟩ (.bool true)) from ⟨(Ch.refl w (fun b => b = g)).setCell (p := ⟨g, 1, none⟩) (by rfl) _, by rw [if_neg h]; exact ⟨rfl, hw0⟩⟩)
    generalize TakeP g l bad n w = post at *
    have hlz : ((strOf l).size : Int) ≤ 1000000000 := by rw [HS.out]; omega
    cases bad with
    | true =>
      clear hw0 H HS h hl
      generalize strOf l = s at *
      go_enter Tryz.func70, Tryz.ntmps70
      go_wp2
      exact HP.out
    | false =>
      have hng : ((strOf l).size : Int) < (n : Int) := by
        have : ¬ n ≤ l.length := fun e => h ⟨rfl, e⟩
        rw [HS.out]; omega
      clear hw0 H HS h hl
      generalize strOf l = s at *
      go_enter Tryz.func70, Tryz.ntmps70
      go_wp2
      exact HP.out
/-- The number that bytes are. -/
def natOf (l : List UInt8) : Nat := l.foldl (fun a c => a * 256 + c.toNat) 0
theorem natOf_snoc (l : List UInt8) (c : UInt8) : natOf (l ++ [c]) = natOf l * 256 + c.toNat := by simp [natOf]
theorem natOf_take (l : List UInt8) (k : Nat) (h : k < l.length) : natOf (l.take (k + 1)) = natOf (l.take k) * 256 + (l.getD k 0).toNat := by
  rw [List.take_succ_eq_append_getElem h, natOf_snoc]
  simp [List.getD, h]
theorem natOf_lt : ∀ (l : List UInt8), natOf l < 256 ^ l.length := by
  intro l
  have : ∀ (k : Nat), k ≤ l.length → natOf (l.take k) < 256 ^ k := by
    intro k
    induction k with
    | zero => intro _; simp [natOf]
    | succ k ih =>
      intro hk
      rw [natOf_take l k (by omega), Nat.pow_succ]
      have := ih (by omega)
      have := (l.getD k 0).toNat_lt
      omega
  have := this l.length (Nat.le_refl _)
  rwa [List.take_length] at this
theorem natOf_le (l : List UInt8) (h : l.length ≤ 4) : natOf l < 4294967296 := Nat.lt_of_lt_of_le (natOf_lt l) (show 256 ^ l.length ≤ 256 ^ 4 from Nat.pow_le_pow_right (by decide) h)
theorem or_byte (a c : Nat) (ha : a < 4294967296) (hc : c < 256) : bits .or .i64 ((a : Int) * 256) (c : Int) = ((a * 256 + c : Nat) : Int) := by
  rw [bits_join .i64 62 (by decide) (fun n h1 h2 => IntWalk.i64_in _ (by omega)) 8 ((a : Int) * 256) (c : Int) (by omega) (by omega) (by omega) (by omega) (by omega) (by omega)]
  omega
def NumP (g : Nat) (l : List UInt8) (bad : Bool) (n : Nat) (w : World) (e : Ending) (w' : World) : Prop :=
  Ch w w' (fun b => b = g) ∧ (if bad = false ∧ n ≤ l.length then e = .returned (.int .i64 (natOf (l.take n) : Int)) ∧ Rd w' g (l.drop n) false else e = .returned (.int .i64 0) ∧ Rd w' g l true)
theorem NumP.yes {g : Nat} {l : List UInt8} {n : Nat} {w w' : World} {e : Ending} (h : NumP g l false n w e w') (hn : n ≤ l.length) : Ch w w' (fun b => b = g) ∧ e = .returned (.int .i64 (natOf (l.take n) : Int)) ∧ Rd w' g (l.drop n) false := by
  obtain ⟨h1, h2⟩ := h
  rw [if_pos ⟨rfl, hn⟩] at h2
  exact ⟨h1, h2⟩
theorem NumP.no {g : Nat} {l : List UInt8} {bad : Bool} {n : Nat} {w w' : World} {e : Ending} (h : NumP g l bad n w e w') (hn : ¬ (bad = false ∧ n ≤ l.length)) : Ch w w' (fun b => b = g) ∧ e = .returned (.int .i64 0) ∧ Rd w' g l true := by
  obtain ⟨h1, h2⟩ := h
  rw [if_neg hn] at h2
  exact ⟨h1, h2⟩
theorem TakeP.no {g : Nat} {l : List UInt8} {bad : Bool} {n : Nat} {w w' : World} {e : Ending} (h : TakeP g l bad n w e w') (hn : ¬ (bad = false ∧ n ≤ l.length)) : Ch w w' (fun b => b = g) ∧ e = .returned (.string ⟨#[]⟩) ∧ Rd w' g l true := by
  obtain ⟨h1, h2⟩ := h
  rw [if_neg hn] at h2
  exact ⟨h1, h2⟩
set_option maxRecDepth 100000 in
set_option maxHeartbeats 1000000 in
theorem numberR_any (g : Nat) (l : List UInt8) (bad : Bool) (n : Nat) (w : World) (H : Rd w g l bad) (hl : l.length ≤ 1000000000) (hn : n ≤ 4) :
    Calls Tryz.prog 44 #[.pointer (some ⟨g, 0, none⟩), .int .i64 (n : Int)] w (NumP g l bad n w) := by
  have HT := Lib.hid (take_any g l bad n w H hl (by omega))
  by_cases h : bad = false ∧ n ≤ l.length
  · have HP := Lib.hid (fun (w' : World) (h1 : Ch w w' (fun b => b = g)) (h2 : Rd w' g (l.drop n) false) => show NumP g l bad n w (.returned (.int .i64 (natOf (l.take n) : Int))) w' from ⟨h1, by rw [if_pos h]; exact ⟨rfl, h2⟩⟩)
    generalize NumP g l bad n w = post at *
    have HL := Lib.hid (show (l.take n).length = n by rw [List.length_take]; omega)
    unfold TakeP at HT
    simp only [if_pos h] at HT
    generalize l.take n = t at *
    go_enter Tryz.func44, Tryz.ntmps44
    go_wp2_with fail
    refine HT.out.mono ?_
    rintro e w1 ⟨hc1, rfl, hr1⟩
    obtain ⟨u, w2, hcv, hby, hb2⟩ := str_bytes w1 t (by rw [HL.out]; unfold maxLen; omega)
    have HC2 := Lib.hid (hc1.trans (Ch.of_below hb2 (fun b => b = g) (fun k hk hk2 => by omega)) fun _ _ h => h)
    have HR2 := Lib.hid (show Rd w2 g (l.drop n) false from (hb2.block g (block_lt hr1)).trans hr1)
    obtain ⟨A, cap, rfl, hn1, hm1, hh1, hz1⟩ := hby
    rw [HL.out] at hcv hn1 hh1
    have HH := Lib.hid hh1
    clear hc1 hr1 hb2 hh1 hz1
    unfold maxLen at hm1
    go_wp2_with fail
    go_loopw [5, 13] (fun xv iv wr => ∃ k : Nat, k ≤ n ∧ iv = .int .i64 k ∧ xv = .int .i64 (natOf (t.take k) : Int) ∧ Hid (wr = w2)) (fun _ iv _ => n - (intOf iv).toNat)
    case atStart => exact ⟨0, by omega, rfl, rfl, Lib.hid rfl⟩
    case round =>
      obtain ⟨k, hk, rfl, rfl, HW⟩ := hrel
      rw [HW.out]
      clear HW
      by_cases hlt : k < n
      · obtain ⟨ad, rfl, hbl, hc⟩ := HH.out (by omega)
        have hcx := hc k hlt
        have HNT := Lib.hid (natOf_take t k (by rw [HL.out]; exact hlt))
        have hnl := natOf_le (t.take k) (by rw [List.length_take, HL.out]; omega)
        have hd : dOf t k = (t.getD k 0).toNat := rfl
        have hcl := (t.getD k 0).toNat_lt
        rw [hd] at hcx
        clear hc hbl hd
        generalize (t.getD k 0).toNat = c at *
        generalize natOf (t.take k) = a at *
        have hor := or_byte a c (by omega) hcl
        have hk' : (k : Int) < (n : Int) := by omega
        go_wp2_with fail
        go_roundw
        case rel => exact ⟨k + 1, by omega, by go_num, by rw [HNT.out]; exact val_int (by omega), Lib.hid (by first | trivial | rfl)⟩
        case measure => simp [intOf]; omega
      · have hke : k = n := by omega
        have HF := Lib.hid (show natOf (t.take k) = natOf t by rw [hke, List.take_of_length_le (by rw [HL.out]; omega)])
        have hk' : ¬ (k : Int) < (n : Int) := by omega
        rw [HF.out]
        go_wp2_with fail
        exact HP.out _ HC2.out HR2.out
  · have HP := Lib.hid (fun (w' : World) (h1 : Ch w w' (fun b => b = g)) (h2 : Rd w' g l true) => show NumP g l bad n w (.returned (.int .i64 0)) w' from ⟨h1, by rw [if_neg h]; exact ⟨rfl, h2⟩⟩)
    generalize NumP g l bad n w = post at *
    unfold TakeP at HT
    simp only [if_neg h] at HT
    go_enter Tryz.func44, Tryz.ntmps44
    go_wp2_with fail
    refine HT.out.mono ?_
    rintro e w1 ⟨hc1, rfl, hr1⟩
    obtain ⟨u, w2, hcv, hby, hb2⟩ := str_bytes w1 [] (by decide)
    rw [strOf_nil] at hcv
    have HC2 := Lib.hid (hc1.trans (Ch.of_below hb2 (fun b => b = g) (fun k hk hk2 => by omega)) fun _ _ h => h)
    have HR2 := Lib.hid (show Rd w2 g l true from (hb2.block g (block_lt hr1)).trans hr1)
    obtain ⟨A, cap, rfl, hn1, hm1, hh1, hz1⟩ := hby
    clear hc1 hr1 hb2 hh1 hz1
    unfold maxLen at hm1
    go_wp2_with fail
    go_loopw [5, 13] (fun xv iv wr => iv = .int .i64 0 ∧ xv = .int .i64 0 ∧ Hid (wr = w2)) (fun _ _ _ => 0)
    case atStart => exact ⟨rfl, rfl, Lib.hid rfl⟩
    case round =>
      obtain ⟨rfl, rfl, HW⟩ := hrel
      rw [HW.out]
      clear HW
      go_wp2_with fail
      exact HP.out _ HC2.out HR2.out
/-- The text at the head of bytes, and what is behind it. -/
def rdText (l : List UInt8) : Option (List UInt8 × List UInt8) :=
  if 4 ≤ l.length ∧ natOf (l.take 4) ≤ (l.drop 4).length then some ((l.drop 4).take (natOf (l.take 4)), (l.drop 4).drop (natOf (l.take 4))) else none
def TextP (g : Nat) (l : List UInt8) (bad : Bool) (w : World) (e : Ending) (w' : World) : Prop :=
  Ch w w' (fun b => b = g) ∧ (match (if bad then none else rdText l) with
    | some (t, r) => e = .returned (.string (strOf t)) ∧ Rd w' g r false
    | none => e = .returned (.string ⟨#[]⟩) ∧ ∃ l', l'.length ≤ l.length ∧ Rd w' g l' true)
set_option maxRecDepth 100000 in
set_option maxHeartbeats 1000000 in
theorem textR_any (g : Nat) (l : List UInt8) (bad : Bool) (w : World) (H : Rd w g l bad) (hl : l.length ≤ 1000000000) :
    Calls Tryz.prog 43 #[.pointer (some ⟨g, 0, none⟩)] w (TextP g l bad w) := by
  have HN := Lib.hid (numberR_any g l bad 4 w H hl (by omega))
  by_cases h : bad = false ∧ 4 ≤ l.length
  · obtain ⟨rfl, h⟩ := h
    have h4 := natOf_le (l.take 4) (by rw [List.length_take]; omega)
    have HT := Lib.hid (fun (w1 : World) (h1 : Rd w1 g (l.drop 4) false) => take_any g (l.drop 4) false (natOf (l.take 4)) w1 h1 (by rw [List.length_drop]; omega) (by omega))
    have HP := Lib.hid (fun (e : Ending) (w1 w2 : World) (h1 : Ch w w1 (fun b => b = g)) (h2 : TakeP g (l.drop 4) false (natOf (l.take 4)) w1 e w2) => show TextP g l false w e w2 from by
      refine ⟨h1.trans h2.1 fun _ _ h => h, ?_⟩
      have h3 := h2.2
      by_cases hle : natOf (l.take 4) ≤ (l.drop 4).length
      · rw [if_pos ⟨rfl, hle⟩] at h3
        simp only [rdText, if_pos (And.intro h hle)]
        exact h3
      · rw [if_neg (fun e => hle e.2)] at h3
        simp only [rdText, if_neg (fun e : 4 ≤ l.length ∧ natOf (l.take 4) ≤ (l.drop 4).length => hle e.2)]
        exact ⟨h3.1, l.drop 4, by rw [List.length_drop]; omega, h3.2⟩)
    have HSH := Lib.hid (fun (e : Ending) (w1 w2 : World) (h2 : TakeP g (l.drop 4) false (natOf (l.take 4)) w1 e w2) => show ∃ s, e = .returned (.string s) from by
      have h3 := h2.2
      by_cases hle : natOf (l.take 4) ≤ (l.drop 4).length
      · rw [if_pos ⟨rfl, hle⟩] at h3; exact ⟨_, h3.1⟩
      · rw [if_neg (fun e => hle e.2)] at h3; exact ⟨_, h3.1⟩)
    generalize TextP g l false w = post at *
    have HN2 := Lib.hid (HN.out.mono fun e w1 h1 => NumP.yes h1 h)
    clear HN
    generalize natOf (l.take 4) = m at *
    go_enter Tryz.func43, Tryz.ntmps43
    go_wp2_with fail
    refine HN2.out.mono ?_
    rintro e w1 ⟨hc1, rfl, hr1⟩
    have HC1 := Lib.hid hc1
    have HT1 := Lib.hid (HT.out w1 hr1)
    clear hc1 hr1 HT
    go_wp2_with fail
    refine HT1.out.mono ?_
    intro e w2 h2
    obtain ⟨s, rfl⟩ := HSH.out e w1 w2 h2
    have HF := Lib.hid (HP.out _ w1 w2 HC1.out h2)
    clear h2
    go_wp2_with fail
    exact HF.out
  · have HR := Lib.hid (show (if bad then none else rdText l) = none by
      cases bad
      · have : ¬ 4 ≤ l.length := fun e => h ⟨rfl, e⟩
        simp [rdText, this]
      · rfl)
    have HT := Lib.hid (fun (w1 : World) (h1 : Rd w1 g l true) => (take_any g l true 0 w1 h1 hl (by omega)).mono fun e w2 h2 => TakeP.no h2 (fun e => by cases e.1))
    have HP := Lib.hid (fun (w1 w2 : World) (h1 : Ch w w1 (fun b => b = g)) (h2 : Ch w1 w2 (fun b => b = g)) (h3 : Rd w2 g l true) => show TextP g l bad w (.returned (.string ⟨#[]⟩)) w2 from by
      refine ⟨h1.trans h2 fun _ _ h => h, ?_⟩
      rw [HR.out]
      exact ⟨rfl, l, Nat.le_refl _, h3⟩)
    generalize TextP g l bad w = post at *
    have HN2 := Lib.hid (HN.out.mono fun e w1 h1 => NumP.no h1 h)
    clear HN
    go_enter Tryz.func43, Tryz.ntmps43
    go_wp2_with fail
    refine HN2.out.mono ?_
    rintro e w1 ⟨hc1, rfl, hr1⟩
    have HC1 := Lib.hid hc1
    have HT1 := Lib.hid (HT.out w1 hr1)
    clear hc1 hr1 HT
    go_wp2_with fail
    refine HT1.out.mono ?_
    rintro e w2 ⟨hc2, rfl, hr2⟩
    have HF := Lib.hid (HP.out w1 w2 HC1.out hc2 hr2)
    clear hc2 hr2
    go_wp2_with fail
    exact HF.out
end Go.Proofs.YtbniilajffjfcaaGreatDoor

/- drv: what bytes say of a derivation. -/
namespace Go.Proofs.YtbniilajffjfcaaGreatDoor
open Go.RowKit Go.BigFrame

def tT (l : List UInt8) (bad : Bool) : List UInt8 := match (if bad then none else rdText l) with | some (t, _) => t | none => []
def TStep (l : List UInt8) (bad : Bool) (l' : List UInt8) (bad' : Bool) : Prop := (bad' = false ∧ bad = false ∧ rdText l = some (tT l bad, l')) ∨ (bad' = true ∧ (bad = true ∨ rdText l = none))
theorem rdText_len {l t r : List UInt8} (h : rdText l = some (t, r)) : t.length ≤ l.length ∧ r.length ≤ l.length := by
  unfold rdText at h
  split at h
  · obtain ⟨rfl, rfl⟩ := Prod.mk.inj (Option.some.inj h)
    simp
    omega
  · cases h
theorem tT_len (l : List UInt8) (bad : Bool) : (tT l bad).length ≤ l.length := by
  unfold tT
  cases bad
  · cases h : rdText l with
    | none => simp [h]
    | some p => obtain ⟨t, r⟩ := p; simpa [h] using (rdText_len h).1
  · simp
def TextQ (g : Nat) (l : List UInt8) (bad : Bool) (w : World) (e : Ending) (w' : World) : Prop :=
  ∃ l' bad', e = .returned (.string (strOf (tT l bad))) ∧ Ch w w' (fun b => b = g) ∧ Rd w' g l' bad' ∧ l'.length ≤ l.length ∧ TStep l bad l' bad'
theorem textQ_any (g : Nat) (l : List UInt8) (bad : Bool) (w : World) (H : Rd w g l bad) (hl : l.length ≤ 1000000000) :
    Calls Tryz.prog 43 #[.pointer (some ⟨g, 0, none⟩)] w (TextQ g l bad w) := by
  refine (textR_any g l bad w H hl).mono fun e w' h => ?_
  obtain ⟨h1, h2⟩ := h
  unfold TextQ TStep tT
  cases bad
  · cases hr : rdText l with
    | none =>
      rw [if_neg (by simp), hr] at h2
      obtain ⟨h3, l', h4, h5⟩ := h2
      exact ⟨l', true, by simp [hr]; exact h3, h1, h5, h4, .inr ⟨rfl, .inr rfl⟩⟩
    | some p =>
      obtain ⟨t, r⟩ := p
      rw [if_neg (by simp), hr] at h2
      exact ⟨r, false, by simpa [hr] using h2.1, h1, h2.2, (rdText_len hr).2, .inl ⟨rfl, rfl, by simp [hr]⟩⟩
  · obtain ⟨h3, l', h4, h5⟩ := h2
    exact ⟨l', true, by simp; exact h3, h1, h5, h4, .inr ⟨rfl, .inl rfl⟩⟩
/-- k texts, one behind the other. -/
def rdTexts : Nat → List UInt8 → Option (List (List UInt8) × List UInt8)
  | 0, l => some ([], l)
  | k + 1, l => (rdTexts k l).bind fun q => (rdText q.2).map fun p => (q.1 ++ [p.1], p.2)
theorem rdTexts_none {l : List UInt8} {j : Nat} (h : rdTexts j l = none) : ∀ k, j ≤ k → rdTexts k l = none := by
  intro k hk
  induction k with
  | zero => obtain rfl : j = 0 := by omega
            exact h
  | succ k ih =>
    by_cases e : j = k + 1
    · rw [← e]; exact h
    · rw [rdTexts, ih (by omega)]; rfl
theorem rdTexts_len {l : List UInt8} : ∀ {k : Nat} {ts : List (List UInt8)} {r : List UInt8}, rdTexts k l = some (ts, r) → ts.length = k ∧ r.length ≤ l.length := by
  intro k
  induction k with
  | zero => intro ts r h; rw [rdTexts] at h; cases h; exact ⟨rfl, Nat.le_refl _⟩
  | succ k ih =>
    intro ts r h
    rw [rdTexts] at h
    cases hk : rdTexts k l with
    | none => rw [hk] at h; cases h
    | some q =>
      rw [hk] at h
      obtain ⟨p, hp, e⟩ := Option.map_eq_some_iff.1 h
      cases e
      obtain ⟨h1, h2⟩ := ih (ts := q.1) (r := q.2) hk
      have := (rdText_len (t := p.1) (r := p.2) hp).2
      exact ⟨by simp [h1], by omega⟩
/-- What bytes say. -/
def getS (b : List UInt8) : Option (ByteArray × List ByteArray × ByteArray) :=
  if magic.isPrefixOf b then
    (rdText (b.drop 4)).bind fun p =>
      if 2 ≤ p.2.length then
        (rdTexts (natOf (p.2.take 2)) (p.2.drop 2)).bind fun q =>
          (rdText q.2).bind fun r => if r.2 = [] ∧ rightD (strOf p.1) (q.1.map strOf) (strOf r.1) = true then some (strOf p.1, q.1.map strOf, strOf r.1) else none
      else none
  else none
theorem getS_magic {b : List UInt8} (h : magic.isPrefixOf b = false) : getS b = none := by unfold getS; rw [h]; rfl
theorem getS_name {b : List UInt8} (h : rdText (b.drop 4) = none) : getS b = none := by
  unfold getS; rw [h]; split <;> rfl
theorem getS_two {b t1 l1 : List UInt8} (h : rdText (b.drop 4) = some (t1, l1)) (h2 : ¬ 2 ≤ l1.length) : getS b = none := by
  unfold getS; rw [h]; split
  · rw [Option.bind_some, if_neg h2]
  · rfl
theorem getS_texts {b t1 l1 : List UInt8} {j : Nat} (h : rdText (b.drop 4) = some (t1, l1)) (h2 : rdTexts j (l1.drop 2) = none) (hj : j ≤ natOf (l1.take 2)) : getS b = none := by
  unfold getS; rw [h]; split
  · rw [Option.bind_some]
    split
    · show (rdTexts (natOf (l1.take 2)) (l1.drop 2)).bind _ = none
      rw [rdTexts_none h2 _ hj]; rfl
    · rfl
  · rfl
theorem getS_at {b t1 l1 : List UInt8} {ts : List (List UInt8)} {r : List UInt8} (h0 : magic.isPrefixOf b = true) (h : rdText (b.drop 4) = some (t1, l1)) (h2 : 2 ≤ l1.length) (h3 : rdTexts (natOf (l1.take 2)) (l1.drop 2) = some (ts, r)) :
    getS b = (rdText r).bind fun r => if r.2 = [] ∧ rightD (strOf t1) (ts.map strOf) (strOf r.1) = true then some (strOf t1, ts.map strOf, strOf r.1) else none := by
  unfold getS
  rw [if_pos h0, h, Option.bind_some, if_pos h2, h3, Option.bind_some]
end Go.Proofs.YtbniilajffjfcaaGreatDoor

/- drv: Get. -/
namespace Go.Proofs.YtbniilajffjfcaaGreatDoor
open Go.RowKit Go.BigFrame

def GetP (b : List UInt8) (w : World) (e : Ending) (w' : World) : Prop :=
  Below w.heap.size w w' ∧ (match getS b with
    | some (nm, ins, rc) => ∃ v, e = .returned (.tuple #[.agg #[.string nm, v, .string rc], .int .i64 0]) ∧ w'.ownsRow w.heap.size 9 1 v ins.length (strs ins)
    | none => e = .returned (.tuple #[.agg #[.string ⟨#[]⟩, .slice none 0 0, .string ⟨#[]⟩], .int .i64 150]))
theorem GetP.no {b : List UInt8} {w w' : World} (h : getS b = none) (hb : Below w.heap.size w w') : GetP b w (.returned (.tuple #[.agg #[.string ⟨#[]⟩, .slice none 0 0, .string ⟨#[]⟩], .int .i64 150])) w' := by
  refine ⟨hb, ?_⟩; rw [h]
theorem GetP.yes {b : List UInt8} {nm : ByteArray} {ins : List ByteArray} {rc : ByteArray} {w w' : World} {v : Value} (h : getS b = some (nm, ins, rc)) (hb : Below w.heap.size w w') (ho : w'.ownsRow w.heap.size 9 1 v ins.length (strs ins)) :
    GetP b w (.returned (.tuple #[.agg #[.string nm, v, .string rc], .int .i64 0])) w' := by
  refine ⟨hb, ?_⟩; rw [h]; exact ⟨v, rfl, ho⟩
theorem cut_yes {b : List UInt8} (h : magic.isPrefixOf b = true) : (⟨(Lib.trimPrefix b magic).toArray⟩ : ByteArray) = strOf (b.drop 4) ∧ Lib.hasPrefix b magic = true := by
  have h2 : Lib.hasPrefix b magic = true := h
  refine ⟨?_, h2⟩
  unfold Lib.trimPrefix
  rw [if_pos h2]; rfl
theorem cut_no {b : List UInt8} (h : magic.isPrefixOf b = false) : (⟨(Lib.trimPrefix b magic).toArray⟩ : ByteArray) = strOf b ∧ Lib.hasPrefix b magic = false := by
  have h2 : Lib.hasPrefix b magic = false := h
  refine ⟨?_, h2⟩
  unfold Lib.trimPrefix
  rw [if_neg (by rw [h2]; simp)]; rfl
theorem infoStr : (Tryz.prog.info? 9).map (fun i => (i.zero, i.size, i.bytes)) = some (some (.string ⟨#[]⟩), 1, 16) := by kernel_rfl
/-- Where the reading begins. -/
def l0 (b : List UInt8) : List UInt8 := if magic.isPrefixOf b then b.drop 4 else b
def b0 (b : List UInt8) : Bool := !magic.isPrefixOf b
/-- How far it went: behind the name; behind the number; among the inputs. -/
def P1 (b : List UInt8) (t1 l1 : List UInt8) (bad : Bool) : Prop := if bad then getS b = none else (magic.isPrefixOf b = true ∧ rdText (b.drop 4) = some (t1, l1))
def P2 (b t1 l2 : List UInt8) (kk : Nat) (bad : Bool) : Prop := if bad then getS b = none else (magic.isPrefixOf b = true ∧ ∃ l1, rdText (b.drop 4) = some (t1, l1) ∧ 2 ≤ l1.length ∧ kk = natOf (l1.take 2) ∧ l2 = l1.drop 2)
def P3 (b t1 l2 : List UInt8) (kk j : Nat) (rs : List ByteArray) (l : List UInt8) (bad : Bool) : Prop := if bad then getS b = none else (P2 b t1 l2 kk false ∧ ∃ ts, rdTexts j l2 = some (ts, l) ∧ rs = ts.map strOf)
theorem p1_of {b l' : List UInt8} {bad' : Bool} (h : TStep (l0 b) (b0 b) l' bad') : P1 b (tT (l0 b) (b0 b)) l' bad' := by
  unfold P1
  rcases h with ⟨rfl, h1, h2⟩ | ⟨rfl, h⟩
  · have hm : magic.isPrefixOf b = true := by simpa [b0] using h1
    rw [if_neg (by simp)]
    refine ⟨hm, ?_⟩
    rw [← h2]
    unfold l0; rw [if_pos hm]
  · rw [if_pos rfl]
    rcases h with h | h
    · exact getS_magic (by simpa [b0] using h)
    · cases hm : magic.isPrefixOf b
      · exact getS_magic hm
      · unfold l0 at h
        rw [if_pos hm] at h
        exact getS_name h
theorem p2_yes {b t1 l1 : List UInt8} (h : P1 b t1 l1 false) (h2 : 2 ≤ l1.length) : P2 b t1 (l1.drop 2) (natOf (l1.take 2)) false := by
  unfold P1 at h
  rw [if_neg (by simp)] at h
  unfold P2
  rw [if_neg (by simp)]
  exact ⟨h.1, l1, h.2, h2, rfl, rfl⟩
theorem p2_no {b t1 l1 : List UInt8} {bad : Bool} (h : P1 b t1 l1 bad) (h2 : ¬ (bad = false ∧ 2 ≤ l1.length)) (l : List UInt8) : P2 b t1 l 0 true := by
  unfold P1 at h
  unfold P2
  rw [if_pos rfl]
  cases bad
  · rw [if_neg (by simp)] at h
    exact getS_two h.2 (fun e => h2 ⟨rfl, e⟩)
  · rwa [if_pos rfl] at h
theorem p3_start {b t1 l2 : List UInt8} {kk : Nat} {bad : Bool} (h : P2 b t1 l2 kk bad) : P3 b t1 l2 kk 0 [] l2 bad := by
  unfold P3
  cases bad
  · rw [if_neg (by simp)]; exact ⟨h, [], rfl, rfl⟩
  · unfold P2 at h; rw [if_pos rfl] at h ⊢; exact h
theorem p3_step {b t1 l2 l l' : List UInt8} {kk j : Nat} {rs : List ByteArray} {bad bad' : Bool} (h : P3 b t1 l2 kk j rs l bad) (hj : j < kk) (hs : TStep l bad l' bad') : P3 b t1 l2 kk (j + 1) (rs ++ [strOf (tT l bad)]) l' bad' := by
  rcases hs with ⟨rfl, rfl, hr⟩ | ⟨rfl, hr⟩
  · unfold P3 at h ⊢
    rw [if_neg (by simp)] at h ⊢
    obtain ⟨h2, ts, h3, h4⟩ := h
    refine ⟨h2, ts ++ [tT l false], ?_, by rw [h4]; simp⟩
    rw [rdTexts, h3]
    simp [hr]
  · unfold P3 at h ⊢
    rw [if_pos rfl]
    cases bad
    · rw [if_neg (by simp)] at h
      obtain ⟨h2, ts, h3, h4⟩ := h
      unfold P2 at h2
      rw [if_neg (by simp)] at h2
      obtain ⟨hm, l1, h5, h6, h7, h8⟩ := h2
      rcases hr with hr | hr
      · cases hr
      · refine getS_texts (j := j + 1) h5 ?_ (by omega)
        rw [← h8, rdTexts, h3]
        simp [hr]
    · rwa [if_pos rfl] at h
theorem p3_end {b t1 l2 l l' : List UInt8} {kk : Nat} {rs : List ByteArray} {bad bad' : Bool} (h : P3 b t1 l2 kk kk rs l bad) (hs : TStep l bad l' bad') :
    getS b = if bad' = false ∧ l' = [] ∧ rightD (strOf t1) rs (strOf (tT l bad)) = true then some (strOf t1, rs, strOf (tT l bad)) else none := by
  unfold P3 at h
  rcases hs with ⟨rfl, rfl, hr⟩ | ⟨rfl, hr⟩
  · rw [if_neg (by simp)] at h
    obtain ⟨h2, ts, h3, rfl⟩ := h
    unfold P2 at h2
    rw [if_neg (by simp)] at h2
    obtain ⟨hm, l1, h5, h6, rfl, rfl⟩ := h2
    rw [getS_at hm h5 h6 h3, hr]
    simp
  · rw [if_neg (fun e => by cases e.1)]
    cases bad
    · rw [if_neg (by simp)] at h
      obtain ⟨h2, ts, h3, rfl⟩ := h
      unfold P2 at h2
      rw [if_neg (by simp)] at h2
      obtain ⟨hm, l1, h5, h6, rfl, rfl⟩ := h2
      rcases hr with hr | hr
      · cases hr
      · rw [getS_at hm h5 h6 h3, hr]; rfl
    · rwa [if_pos rfl] at h
end Go.Proofs.YtbniilajffjfcaaGreatDoor
