/- The contracts of put and bytes, of a thing. -/
import Derived.Test.YtohojfgceaajfaaFldI
namespace Go.Proofs.Ytohojfgceaajfaa
open Go.RowKit

def itLen (x : It) : Nat := if x.kind % 5 = 4 then x.n else wd (x.kind % 5)
def itB (x : It) : Nat → Nat := if x.kind % 5 = 4 then x.d else numB x.num (wd (x.kind % 5))
theorem numB_mod (n k i : Nat) (h : i < k) : numB (n % 2 ^ (8 * k)) k i = numB n k i := by
  unfold numB
  obtain ⟨p, hp⟩ : ∃ p, p + i + 1 = k := ⟨k - 1 - i, by omega⟩
  rw [show k - 1 - i = p by omega, show 8 * k = 8 * p + 8 * (i + 1) by omega, Nat.pow_add, Nat.mod_mul_right_div_self]
  rw [show 8 * (i + 1) = 8 + 8 * i by omega, Nat.pow_add]
  exact Nat.mod_mod_of_dvd _ ⟨2 ^ (8 * i), rfl⟩
theorem Put.congr {w w' : World} {g base : Nat} {v : Value} {L : Nat} {d e : Nat → Nat} (h : Put w g base v L d w') (he : ∀ i, i < L → d i = e i) : Put w g base v L e w' := by
  obtain ⟨v', ⟨h1, h2, h3⟩, h4⟩ := h
  exact ⟨v', ⟨h1, by rw [← cells_congr d e L he]; exact h2, h3⟩, h4⟩
theorem Put.of_alloc {w w' : World} {o : Obj} {g base : Nat} {v : Value} {L : Nat} {d : Nat → Nat} (h : Put (w.alloc o) g base v L d w') : Put w g base v L d w' := by
  obtain ⟨v', h1, h2, h3⟩ := h
  refine ⟨v', h1, ((KeptBut.refl w g v.ownBlock).alloc o).trans (Moved.refl w v) h2, ?_⟩
  rcases h3 with h | ⟨q, h, hq⟩
  · exact .inl h
  · exact .inr ⟨q, h, by simp at hq; omega⟩
theorem join_congr (L k : Nat) (d e f : Nat → Nat) (h : ∀ i, i < k → e i = f i) : ∀ i, i < L + k → joinD L d e i = joinD L d f i := fun i hi => by
  unfold joinD
  split
  · rfl
  · exact h _ (by omega)
theorem it_rows (w : World) (x : It) : (w.alloc (.cells (itV x) 30)).cell? ⟨w.heap.size, 0, none⟩ = some (.int .u8 (x.kind : Int)) ∧ (w.alloc (.cells (itV x) 30)).cell? ⟨w.heap.size, 1, none⟩ = some (.int .u64 (x.num : Int)) ∧ (w.alloc (.cells (itV x) 30)).cell? ⟨w.heap.size, 2, none⟩ = some (.slice x.A x.n x.cap) :=
  ⟨(cell_of_row _ _ 0 _ _ _ (heap_alloc_new w _)).trans rfl, (cell_of_row _ _ 1 _ _ _ (heap_alloc_new w _)).trans rfl, (cell_of_row _ _ 2 _ _ _ (heap_alloc_new w _)).trans rfl⟩

set_option maxHeartbeats 400000 in
theorem putIt_0 (x : It) (hk : x.kind % 5 = 0) (hn : x.num < 18446744073709551616) (w : World) (g base : Nat) (v : Value) (L : Nat) (d : Nat → Nat) (hW : Wr w g base v L d) (hL : L ≤ 10000) (hbase : base ≤ w.heap.size) :
    Calls Try.prog 10 #[.pointer (some ⟨g, 0, none⟩), .agg #[.int .u8 (x.kind : Int), .int .u64 (x.num : Int), .slice x.A x.n x.cap]] w fun e w' => e = .returned (.tuple #[]) ∧ Put w g base v (L + itLen x) (joinD L d (itB x)) w' := by
  have e5 : (x.kind : Int) % 5 = 0 := by omega
  have HK := Lib.hid hk
  obtain ⟨q, Q⟩ : ∃ q, Hid (q = x.num % 256) := ⟨_, Lib.hid rfl⟩
  have hq : q < 256 := by have := Q.out; omega
  have eq1 : (x.num : Int) % 256 = (q : Int) := by rw [Q.out]; omega
  have eq2 : IntKind.u8.wrap (x.num : Int) = (q : Int) := by rw [IntKind.wrap_u8]; exact eq1
  obtain ⟨c0, c1, c2⟩ := it_rows w x
  have HC := Lib.hid (wByte_any q hq _ g base v L d (hW.below (below_alloc1 w (.cells (itV x) 30))) hL (by simp; omega))
  clear hk hW hn hq
  go_enter Try.func10, Try.ntmps10
  go_wp2_with fail
  refine HC.out.mono ?_
  rintro e w' ⟨rfl, hp⟩
  clear HC c0 c1 c2
  go_wp2_with fail
  go_end0
  refine ⟨rfl, ?_⟩
  rw [itLen, itB, HK.out]
  exact hp.of_alloc.congr (join_congr _ _ _ _ _ fun i hi => by rw [Q.out]; exact numB_mod x.num 1 i hi)

set_option maxHeartbeats 400000 in
theorem putIt_1 (x : It) (hk : x.kind % 5 = 1) (hn : x.num < 18446744073709551616) (w : World) (g base : Nat) (v : Value) (L : Nat) (d : Nat → Nat) (hW : Wr w g base v L d) (hL : L ≤ 10000) (hbase : base ≤ w.heap.size) :
    Calls Try.prog 10 #[.pointer (some ⟨g, 0, none⟩), .agg #[.int .u8 (x.kind : Int), .int .u64 (x.num : Int), .slice x.A x.n x.cap]] w fun e w' => e = .returned (.tuple #[]) ∧ Put w g base v (L + itLen x) (joinD L d (itB x)) w' := by
  have e5 : (x.kind : Int) % 5 = 1 := by omega
  have HK := Lib.hid hk
  obtain ⟨q, Q⟩ : ∃ q, Hid (q = x.num % 65536) := ⟨_, Lib.hid rfl⟩
  have hq : q < 65536 := by have := Q.out; omega
  have eq1 : (x.num : Int) % 65536 = (q : Int) := by rw [Q.out]; omega
  have eq2 : IntKind.u16.wrap (x.num : Int) = (q : Int) := by rw [IntKind.wrap_u16]; exact eq1
  obtain ⟨c0, c1, c2⟩ := it_rows w x
  have HC := Lib.hid (wShort_any q hq _ g base v L d (hW.below (below_alloc1 w (.cells (itV x) 30))) hL (by simp; omega))
  clear hk hW hn hq
  go_enter Try.func10, Try.ntmps10
  go_wp2_with fail
  refine HC.out.mono ?_
  rintro e w' ⟨rfl, hp⟩
  clear HC c0 c1 c2
  go_wp2_with fail
  go_end0
  refine ⟨rfl, ?_⟩
  rw [itLen, itB, HK.out]
  exact hp.of_alloc.congr (join_congr _ _ _ _ _ fun i hi => by rw [Q.out]; exact numB_mod x.num 2 i hi)

set_option maxHeartbeats 400000 in
theorem putIt_2 (x : It) (hk : x.kind % 5 = 2) (hn : x.num < 18446744073709551616) (w : World) (g base : Nat) (v : Value) (L : Nat) (d : Nat → Nat) (hW : Wr w g base v L d) (hL : L ≤ 10000) (hbase : base ≤ w.heap.size) :
    Calls Try.prog 10 #[.pointer (some ⟨g, 0, none⟩), .agg #[.int .u8 (x.kind : Int), .int .u64 (x.num : Int), .slice x.A x.n x.cap]] w fun e w' => e = .returned (.tuple #[]) ∧ Put w g base v (L + itLen x) (joinD L d (itB x)) w' := by
  have e5 : (x.kind : Int) % 5 = 2 := by omega
  have HK := Lib.hid hk
  obtain ⟨q, Q⟩ : ∃ q, Hid (q = x.num % 4294967296) := ⟨_, Lib.hid rfl⟩
  have hq : q < 4294967296 := by have := Q.out; omega
  have eq1 : (x.num : Int) % 4294967296 = (q : Int) := by rw [Q.out]; omega
  have eq2 : IntKind.u32.wrap (x.num : Int) = (q : Int) := by rw [IntKind.wrap_u32]; exact eq1
  obtain ⟨c0, c1, c2⟩ := it_rows w x
  have HC := Lib.hid (wWord_any q hq _ g base v L d (hW.below (below_alloc1 w (.cells (itV x) 30))) hL (by simp; omega))
  clear hk hW hn hq
  go_enter Try.func10, Try.ntmps10
  go_wp2_with fail
  refine HC.out.mono ?_
  rintro e w' ⟨rfl, hp⟩
  clear HC c0 c1 c2
  go_wp2_with fail
  go_end0
  refine ⟨rfl, ?_⟩
  rw [itLen, itB, HK.out]
  exact hp.of_alloc.congr (join_congr _ _ _ _ _ fun i hi => by rw [Q.out]; exact numB_mod x.num 4 i hi)

set_option maxHeartbeats 400000 in
theorem putIt_3 (x : It) (hk : x.kind % 5 = 3) (hn : x.num < 18446744073709551616) (w : World) (g base : Nat) (v : Value) (L : Nat) (d : Nat → Nat) (hW : Wr w g base v L d) (hL : L ≤ 10000) (hbase : base ≤ w.heap.size) :
    Calls Try.prog 10 #[.pointer (some ⟨g, 0, none⟩), .agg #[.int .u8 (x.kind : Int), .int .u64 (x.num : Int), .slice x.A x.n x.cap]] w fun e w' => e = .returned (.tuple #[]) ∧ Put w g base v (L + itLen x) (joinD L d (itB x)) w' := by
  have e5 : (x.kind : Int) % 5 = 3 := by omega
  have HK := Lib.hid hk
  obtain ⟨c0, c1, c2⟩ := it_rows w x
  have HC := Lib.hid (wLong_any x.num hn _ g base v L d (hW.below (below_alloc1 w (.cells (itV x) 30))) hL (by simp; omega))
  clear hk hW hn
  go_enter Try.func10, Try.ntmps10
  go_wp2_with fail
  refine HC.out.mono ?_
  rintro e w' ⟨rfl, hp⟩
  clear HC c0 c1 c2
  go_wp2_with fail
  go_end0
  refine ⟨rfl, ?_⟩
  rw [itLen, itB, HK.out]
  exact hp.of_alloc

set_option maxHeartbeats 400000 in
theorem putIt_4 (x : It) (hk : x.kind % 5 = 4) (hm : x.n ≤ 10000) (w : World) (g base : Nat) (v : Value) (L : Nat) (d : Nat → Nat) (hW : Wr w g base v L d) (hL : L ≤ 10000) (hbase : base ≤ w.heap.size) (B : Nat) (hBw : B ≤ w.heap.size) (hr : Holds w B x.A x.n x.d) (hA : x.A = none → x.cap = 0) (hnc : x.n ≤ x.cap) :
    Calls Try.prog 10 #[.pointer (some ⟨g, 0, none⟩), .agg #[.int .u8 (x.kind : Int), .int .u64 (x.num : Int), .slice x.A x.n x.cap]] w fun e w' => e = .returned (.tuple #[]) ∧ Put w g base v (L + itLen x) (joinD L d (itB x)) w' := by
  have e5 : (x.kind : Int) % 5 = 4 := by omega
  have HK := Lib.hid hk
  obtain ⟨c0, c1, c2⟩ := it_rows w x
  have HC := Lib.hid (wRaw_any x.A x.n x.cap x.d _ g base v L d (hW.below (below_alloc1 w (.cells (itV x) 30))) hL hm (by simp; omega) B (hr.below ((Below.refl B w).alloc hBw _)) hA hnc)
  clear hk hW hr hA hnc
  go_enter Try.func10, Try.ntmps10
  go_wp2_with fail
  refine HC.out.mono ?_
  rintro e w' ⟨rfl, hp⟩
  clear HC c0 c1 c2
  go_wp2_with fail
  go_end0
  refine ⟨rfl, ?_⟩
  rw [itLen, itB, if_pos HK.out, if_pos HK.out]
  exact hp.of_alloc
theorem putIt_any (x : It) (w : World) (g base : Nat) (v : Value) (L : Nat) (d : Nat → Nat) (hW : Wr w g base v L d) (hL : L ≤ 10000) (hbase : base ≤ w.heap.size) (B : Nat) (hBw : B ≤ w.heap.size) (hok : ItOk w B x) (hm : x.n ≤ 10000) :
    Calls Try.prog 10 #[.pointer (some ⟨g, 0, none⟩), .agg #[.int .u8 (x.kind : Int), .int .u64 (x.num : Int), .slice x.A x.n x.cap]] w fun e w' => e = .returned (.tuple #[]) ∧ Put w g base v (L + itLen x) (joinD L d (itB x)) w' := by
  obtain ⟨h1, h2, h3, h4, h5, h6, h7⟩ := hok
  have hc : x.kind % 5 = 0 ∨ x.kind % 5 = 1 ∨ x.kind % 5 = 2 ∨ x.kind % 5 = 3 ∨ x.kind % 5 = 4 := by omega
  rcases hc with h | h | h | h | h
  · exact putIt_0 x h h2 w g base v L d hW hL hbase
  · exact putIt_1 x h h2 w g base v L d hW hL hbase
  · exact putIt_2 x h h2 w g base v L d hW hL hbase
  · exact putIt_3 x h h2 w g base v L d hW hL hbase
  · exact putIt_4 x h hm w g base v L d hW hL hbase B hBw h6 h7 h4
end Go.Proofs.Ytohojfgceaajfaa
