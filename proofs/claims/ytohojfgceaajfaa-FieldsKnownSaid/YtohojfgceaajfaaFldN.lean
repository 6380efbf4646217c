/- The contract of reads. -/
import Derived.Test.YtohojfgceaajfaaFldM
namespace Go.Proofs.Ytohojfgceaajfaa
open Go.RowKit

def sgn (n : Nat) : Int := if n < 9223372036854775808 then (n : Int) else (n : Int) - 18446744073709551616
def ask (x : It) : Int := if x.kind % 5 = 4 then sgn x.num else (wd (x.kind % 5) : Int)
def readN (x : It) (d : Nat → Nat) (k : Nat) : Nat := if x.kind % 5 = 4 then 0 else numV d k
def readS (x : It) (d : Nat → Nat) (k : Nat) : ByteArray := if x.kind % 5 = 4 then strOf (txt d k) else ⟨#[]⟩
def ReadGot (w : World) (g n : Nat) (d : Nat → Nat) (bad : Bool) (x : It) (e : Ending) (w' : World) : Prop :=
  KeptBut w w' g none ∧ if bad = false ∧ 0 ≤ ask x ∧ ask x ≤ n then e = .returned (.tuple #[.int .u64 (readN x d (ask x).toNat : Int), .string (readS x d (ask x).toNat)]) ∧ Rd w' g (n - (ask x).toNat) (shiftD (ask x).toNat d) false
    else e = .returned (.tuple #[.int .u64 0, .string ⟨#[]⟩]) ∧ Rd w' g 0 (fun _ => 0) true
theorem kept_alloc_none {w w' : World} {g : Nat} (o : Obj) (h : KeptBut (w.alloc o) w' g none) : KeptBut w w' g none := keptbut_none ((KeptBut.refl w g none).alloc o) h

set_option maxHeartbeats 400000 in
theorem reads_0 (x : It) (hk : x.kind % 5 = 0) (w : World) (g n : Nat) (d : Nat → Nat) (bad : Bool) (hd : ∀ i, d i < 256) (hR : Rd w g n d bad) (hb : bad = true → n = 0) :
    Calls Try.prog 16 #[.pointer (some ⟨g, 0, none⟩), .agg #[.int .u8 (x.kind : Int), .int .u64 (x.num : Int), .slice x.A x.n x.cap]] w fun e w' => ReadGot w g n d bad x e w' := by
  have e5 : (x.kind : Int) % 5 = 0 := by omega
  have hask : ask x = 1 := by rw [ask, hk]; rfl
  have HASK := Lib.hid hask
  have HK := Lib.hid hk
  have HD := Lib.hid hd
  obtain ⟨c0, c1, c2⟩ := it_rows w x
  have HC := Lib.hid (rByte_any _ g n d bad hd (hR.below (below_alloc1 w (.cells (itV x) 30))) hb)
  clear hk hR hb hd hask
  go_enter Try.func16, Try.ntmps16
  go_wp2_with fail
  refine HC.out.mono ?_
  rintro e w1 ⟨hkb, hif⟩
  have HKB := Lib.hid (kept_alloc_none _ hkb)
  clear hkb c0 c1 c2 HC
  by_cases hok : bad = false ∧ 1 ≤ n
  · rw [if_pos hok] at hif
    obtain ⟨rfl, hR1⟩ := hif
    have HR1 := Lib.hid hR1
    obtain ⟨q, Q⟩ : ∃ q, Hid (q = numV d 1) := ⟨_, Lib.hid rfl⟩
    rw [← Q.out]
    have hq : q < 256 := by rw [Q.out]; exact numV_lt d HD.out 1
    have HQ := Lib.hid hok
    clear hok hR1
    go_wp2_with fail
    go_ret2
    refine ⟨HKB.out, ?_⟩
    rw [HASK.out, if_pos ⟨HQ.out.1, by decide, by have := HQ.out.2; omega⟩, readN, readS, HK.out]
    exact ⟨by rw [show ((1 : Int)).toNat = 1 from rfl, ← Q.out]; rfl, HR1.out⟩
  · rw [if_neg hok] at hif
    obtain ⟨rfl, hR1⟩ := hif
    have HR1 := Lib.hid hR1
    have HQ := Lib.hid hok
    clear hok hR1
    go_wp2_with fail
    go_ret2
    refine ⟨HKB.out, ?_⟩
    rw [HASK.out, if_neg (fun h => HQ.out ⟨h.1, by omega⟩)]
    exact ⟨rfl, HR1.out⟩

set_option maxHeartbeats 400000 in
theorem reads_1 (x : It) (hk : x.kind % 5 = 1) (w : World) (g n : Nat) (d : Nat → Nat) (bad : Bool) (hd : ∀ i, d i < 256) (hR : Rd w g n d bad) (hb : bad = true → n = 0) :
    Calls Try.prog 16 #[.pointer (some ⟨g, 0, none⟩), .agg #[.int .u8 (x.kind : Int), .int .u64 (x.num : Int), .slice x.A x.n x.cap]] w fun e w' => ReadGot w g n d bad x e w' := by
  have e5 : (x.kind : Int) % 5 = 1 := by omega
  have hask : ask x = 2 := by rw [ask, hk]; rfl
  have HASK := Lib.hid hask
  have HK := Lib.hid hk
  have HD := Lib.hid hd
  obtain ⟨c0, c1, c2⟩ := it_rows w x
  have HC := Lib.hid (rShort_any _ g n d bad hd (hR.below (below_alloc1 w (.cells (itV x) 30))) hb)
  clear hk hR hb hd hask
  go_enter Try.func16, Try.ntmps16
  go_wp2_with fail
  refine HC.out.mono ?_
  rintro e w1 ⟨hkb, hif⟩
  have HKB := Lib.hid (kept_alloc_none _ hkb)
  clear hkb c0 c1 c2 HC
  by_cases hok : bad = false ∧ 2 ≤ n
  · rw [if_pos hok] at hif
    obtain ⟨rfl, hR1⟩ := hif
    have HR1 := Lib.hid hR1
    obtain ⟨q, Q⟩ : ∃ q, Hid (q = numV d 2) := ⟨_, Lib.hid rfl⟩
    rw [← Q.out]
    have hq : q < 65536 := by rw [Q.out]; exact numV_lt d HD.out 2
    have HQ := Lib.hid hok
    clear hok hR1
    go_wp2_with fail
    go_ret2
    refine ⟨HKB.out, ?_⟩
    rw [HASK.out, if_pos ⟨HQ.out.1, by decide, by have := HQ.out.2; omega⟩, readN, readS, HK.out]
    exact ⟨by rw [show ((2 : Int)).toNat = 2 from rfl, ← Q.out]; rfl, HR1.out⟩
  · rw [if_neg hok] at hif
    obtain ⟨rfl, hR1⟩ := hif
    have HR1 := Lib.hid hR1
    have HQ := Lib.hid hok
    clear hok hR1
    go_wp2_with fail
    go_ret2
    refine ⟨HKB.out, ?_⟩
    rw [HASK.out, if_neg (fun h => HQ.out ⟨h.1, by omega⟩)]
    exact ⟨rfl, HR1.out⟩

set_option maxHeartbeats 400000 in
theorem reads_2 (x : It) (hk : x.kind % 5 = 2) (w : World) (g n : Nat) (d : Nat → Nat) (bad : Bool) (hd : ∀ i, d i < 256) (hR : Rd w g n d bad) (hb : bad = true → n = 0) :
    Calls Try.prog 16 #[.pointer (some ⟨g, 0, none⟩), .agg #[.int .u8 (x.kind : Int), .int .u64 (x.num : Int), .slice x.A x.n x.cap]] w fun e w' => ReadGot w g n d bad x e w' := by
  have e5 : (x.kind : Int) % 5 = 2 := by omega
  have hask : ask x = 4 := by rw [ask, hk]; rfl
  have HASK := Lib.hid hask
  have HK := Lib.hid hk
  have HD := Lib.hid hd
  obtain ⟨c0, c1, c2⟩ := it_rows w x
  have HC := Lib.hid (rWord_any _ g n d bad hd (hR.below (below_alloc1 w (.cells (itV x) 30))) hb)
  clear hk hR hb hd hask
  go_enter Try.func16, Try.ntmps16
  go_wp2_with fail
  refine HC.out.mono ?_
  rintro e w1 ⟨hkb, hif⟩
  have HKB := Lib.hid (kept_alloc_none _ hkb)
  clear hkb c0 c1 c2 HC
  by_cases hok : bad = false ∧ 4 ≤ n
  · rw [if_pos hok] at hif
    obtain ⟨rfl, hR1⟩ := hif
    have HR1 := Lib.hid hR1
    obtain ⟨q, Q⟩ : ∃ q, Hid (q = numV d 4) := ⟨_, Lib.hid rfl⟩
    rw [← Q.out]
    have hq : q < 4294967296 := by rw [Q.out]; exact numV_lt d HD.out 4
    have HQ := Lib.hid hok
    clear hok hR1
    go_wp2_with fail
    go_ret2
    refine ⟨HKB.out, ?_⟩
    rw [HASK.out, if_pos ⟨HQ.out.1, by decide, by have := HQ.out.2; omega⟩, readN, readS, HK.out]
    exact ⟨by rw [show ((4 : Int)).toNat = 4 from rfl, ← Q.out]; rfl, HR1.out⟩
  · rw [if_neg hok] at hif
    obtain ⟨rfl, hR1⟩ := hif
    have HR1 := Lib.hid hR1
    have HQ := Lib.hid hok
    clear hok hR1
    go_wp2_with fail
    go_ret2
    refine ⟨HKB.out, ?_⟩
    rw [HASK.out, if_neg (fun h => HQ.out ⟨h.1, by omega⟩)]
    exact ⟨rfl, HR1.out⟩

set_option maxHeartbeats 400000 in
theorem reads_3 (x : It) (hk : x.kind % 5 = 3) (w : World) (g n : Nat) (d : Nat → Nat) (bad : Bool) (hd : ∀ i, d i < 256) (hR : Rd w g n d bad) (hb : bad = true → n = 0) :
    Calls Try.prog 16 #[.pointer (some ⟨g, 0, none⟩), .agg #[.int .u8 (x.kind : Int), .int .u64 (x.num : Int), .slice x.A x.n x.cap]] w fun e w' => ReadGot w g n d bad x e w' := by
  have e5 : (x.kind : Int) % 5 = 3 := by omega
  have hask : ask x = 8 := by rw [ask, hk]; rfl
  have HASK := Lib.hid hask
  have HK := Lib.hid hk
  have HD := Lib.hid hd
  obtain ⟨c0, c1, c2⟩ := it_rows w x
  have HC := Lib.hid (rLong_any _ g n d bad hd (hR.below (below_alloc1 w (.cells (itV x) 30))) hb)
  clear hk hR hb hd hask
  go_enter Try.func16, Try.ntmps16
  go_wp2_with fail
  refine HC.out.mono ?_
  rintro e w1 ⟨hkb, hif⟩
  have HKB := Lib.hid (kept_alloc_none _ hkb)
  clear hkb c0 c1 c2 HC
  by_cases hok : bad = false ∧ 8 ≤ n
  · rw [if_pos hok] at hif
    obtain ⟨rfl, hR1⟩ := hif
    have HR1 := Lib.hid hR1
    obtain ⟨q, Q⟩ : ∃ q, Hid (q = numV d 8) := ⟨_, Lib.hid rfl⟩
    rw [← Q.out]
    have hq : q < 18446744073709551616 := by rw [Q.out]; exact numV_le8 d HD.out 8 (by decide)
    have HQ := Lib.hid hok
    clear hok hR1
    go_wp2_with fail
    go_ret2
    refine ⟨HKB.out, ?_⟩
    rw [HASK.out, if_pos ⟨HQ.out.1, by decide, by have := HQ.out.2; omega⟩, readN, readS, HK.out]
    exact ⟨by rw [show ((8 : Int)).toNat = 8 from rfl, ← Q.out]; rfl, HR1.out⟩
  · rw [if_neg hok] at hif
    obtain ⟨rfl, hR1⟩ := hif
    have HR1 := Lib.hid hR1
    have HQ := Lib.hid hok
    clear hok hR1
    go_wp2_with fail
    go_ret2
    refine ⟨HKB.out, ?_⟩
    rw [HASK.out, if_neg (fun h => HQ.out ⟨h.1, by omega⟩)]
    exact ⟨rfl, HR1.out⟩

set_option maxRecDepth 100000 in
set_option maxHeartbeats 1000000 in
theorem reads_4 (x : It) (hk : x.kind % 5 = 4) (hnu : x.num < 18446744073709551616) (w : World) (g n : Nat) (d : Nat → Nat) (bad : Bool) (hd : ∀ i, d i < 256) (hR : Rd w g n d bad) (hb : bad = true → n = 0) (hn : n ≤ 20000) :
    Calls Try.prog 16 #[.pointer (some ⟨g, 0, none⟩), .agg #[.int .u8 (x.kind : Int), .int .u64 (x.num : Int), .slice x.A x.n x.cap]] w fun e w' => ReadGot w g n d bad x e w' := by
  have e5 : (x.kind : Int) % 5 = 4 := by omega
  have hask : ask x = sgn x.num := by rw [ask, if_pos hk]
  have HASK := Lib.hid hask
  have HK := Lib.hid hk
  have HD := Lib.hid hd
  obtain ⟨c0, c1, c2⟩ := it_rows w x
  obtain ⟨z, Z⟩ : ∃ z, Hid (z = sgn x.num) := ⟨_, Lib.hid rfl⟩
  have ez : wrap64 (x.num : Int) = z := by rw [Z.out]; unfold wrap64 sgn; split <;> omega
  have ez2 : IntKind.i64.wrap (x.num : Int) = z := by rw [← ez]; simp [IntKind.wrap, IntKind.bits, IntKind.signed, wrap64]; omega
  have HC := Lib.hid (rRaw_any z _ g n d bad (hR.below (below_alloc1 w (.cells (itV x) 30))) hb hn)
  have hgw := hR.lt
  clear hk hR hd hask
  go_enter Try.func16, Try.ntmps16
  go_wp2_with fail
  refine HC.out.mono ?_
  rintro e w1 ⟨hkb, hif⟩
  have hz1 : w.heap.size + 1 ≤ w1.heap.size := by have := hkb.size; simpa using this
  have HKB := Lib.hid (kept_alloc_none _ hkb)
  clear hkb c0 c1 c2 HC
  -- one shape for both ways
  obtain ⟨T, s, n', d', bad', v, rfl, hown, hR1, HFIN⟩ : ∃ (T : Nat) (s : ByteArray) (n' : Nat) (d' : Nat → Nat) (bad' : Bool) (v : Value), e = .returned v ∧ w1.ownsRow (w.heap.size + 1) 5 1 v T (cells d T) ∧ Rd w1 g n' d' bad' ∧ Hid (s = strOf (txt d T) ∧ T ≤ 20000 ∧ ∀ w2, KeptBut w w2 g none → Rd w2 g n' d' bad' → ReadGot w g n d bad x (.returned (.tuple #[.int .u64 0, .string s])) w2) := by
    have hsz : (w.alloc (.cells (itV x) 30)).heap.size = w.heap.size + 1 := by simp
    by_cases hok : bad = false ∧ 0 ≤ z ∧ z ≤ n
    · rw [if_pos hok] at hif
      obtain ⟨⟨v, rfl, hown⟩, hR1⟩ := hif
      refine ⟨z.toNat, _, _, _, _, v, rfl, hsz ▸ hown, hR1, Lib.hid ⟨rfl, by omega, fun w2 h1 h2 => ⟨h1, ?_⟩⟩⟩
      rw [HASK.out, ← Z.out, if_pos hok, readN, readS, if_pos HK.out, if_pos HK.out]
      exact ⟨rfl, h2⟩
    · rw [if_neg hok] at hif
      obtain ⟨⟨v, rfl, hown⟩, hR1⟩ := hif
      refine ⟨0, _, _, _, _, v, rfl, hsz ▸ hown, hR1, Lib.hid ⟨rfl, by omega, fun w2 h1 h2 => ⟨h1, ?_⟩⟩⟩
      rw [HASK.out, ← Z.out, if_neg hok]
      exact ⟨rfl, h2⟩
  have hcv := convert_own (P := Try.prog) (src := 25) (dst := 9) (l := txt d T) (by rw [txt_len, ← txt_cells _ _ HD.out]; exact hown) Try.underlying25 Try.underlying5 Try.underlying9
  rw [← HFIN.out.1] at hcv
  obtain ⟨Ao, capo, g3, rfl, hLo, hco, hg3, hany⟩ := own_any HD.out hown hz1
  have HANY := Lib.hid hany
  have HR1 := Lib.hid hR1
  have hT2 := HFIN.out.2.1
  have HG3 := Lib.hid (show g ≠ g3 by omega)
  unfold maxLen at hco
  clear hown hR1 hany hif hz1
  go_wp2_with fail
  clear hcv
  go_loopw [8] (fun i wr => ∃ j : Nat, j ≤ T ∧ i = .int .i64 j ∧ Hid (KeptBut w1 wr g3 none) ∧ Hid (SliceAny Ao g3 T wr)) (fun i _ => T - (intOf i).toNat)
  case atStart => exact ⟨0, by omega, rfl, Lib.hid (KeptBut.refl _ _ _), HANY⟩
  case round =>
    clear HANY
    obtain ⟨j, hj, rfl, HK2, HA2⟩ := hrel
    by_cases hlj : j < T
    · obtain ⟨rfl, hA⟩ := HA2.out (by omega)
      obtain ⟨b, hb256, hcb, hfb⟩ := hA.at hlj
      obtain ⟨b1, B1⟩ : ∃ b1, Hid (b1 = (b + 1) % 256) := ⟨_, Lib.hid rfl⟩
      have hb1 : b1 < 256 := by have := B1.out; omega
      have eb1 : ((b : Int) + 1) % 256 = (b1 : Int) := by rw [B1.out]; omega
      have HK3 := Lib.hid ((HK2.out.setCell (p := ⟨g3, j, none⟩) rfl (.int .u8 (b1 : Int))))
      have HA3 : Hid (SliceAny (some ⟨g3, 0, none⟩) g3 T (wr.setCell ⟨g3, j, none⟩ (.int .u8 (b1 : Int)))) := Lib.hid fun _ => ⟨rfl, hA.set hb1⟩
      clear HK2 HA2 hA
      go_wp2_with fail
      go_roundw
      case rel => exact ⟨j + 1, by omega, by go_num, HK3, HA3⟩
      case measure => simp [intOf]; omega
    · have hE := HFIN.out.2.2 wr ?hk1 ?hr1
      case hk1 =>
        have h1 := HKB.out
        have h2 := HK2.out
        exact ⟨h2.os.trans h1.os, h2.tape.trans h1.tape, h2.output.trans h1.output, Nat.le_trans h1.size h2.size, fun q hq h0 h3 => (h2.block q (Nat.lt_of_lt_of_le hq h1.size) (by omega) h3).trans (h1.block q hq h0 h3)⟩
      case hr1 =>
        obtain ⟨A, cap, h0, h1, h2⟩ := HR1.out
        refine ⟨A, cap, (HK2.out.block g (block_lt h0) HG3.out (fun e => by cases e)).trans h0, fun hn0 => ?_, h2⟩
        obtain ⟨a, ea, hl, hc⟩ := h1 hn0
        refine ⟨a, ea, hl, fun q hq => ?_⟩
        rw [← hc q hq]
        exact World.cell?_of_block (HK2.out.block _ (by rw [add_block]; have := HR1.out.lt; omega) (by rw [add_block]; omega) (fun e => by cases e))
      have HE := Lib.hid hE
      clear hE HK2 HA2
      go_wp2_with fail
      go_ret2
      exact HE.out
theorem reads_any (x : It) (hnu : x.num < 18446744073709551616) (w : World) (g n : Nat) (d : Nat → Nat) (bad : Bool) (hd : ∀ i, d i < 256) (hR : Rd w g n d bad) (hb : bad = true → n = 0) (hn : n ≤ 20000) :
    Calls Try.prog 16 #[.pointer (some ⟨g, 0, none⟩), .agg #[.int .u8 (x.kind : Int), .int .u64 (x.num : Int), .slice x.A x.n x.cap]] w fun e w' => ReadGot w g n d bad x e w' := by
  have hc : x.kind % 5 = 0 ∨ x.kind % 5 = 1 ∨ x.kind % 5 = 2 ∨ x.kind % 5 = 3 ∨ x.kind % 5 = 4 := by omega
  rcases hc with h | h | h | h | h
  · exact reads_0 x h w g n d bad hd hR hb
  · exact reads_1 x h w g n d bad hd hR hb
  · exact reads_2 x h w g n d bad hd hR hb
  · exact reads_3 x h w g n d bad hd hR hb
  · exact reads_4 x h hnu w g n d bad hd hR hb hn
end Go.Proofs.Ytohojfgceaajfaa
