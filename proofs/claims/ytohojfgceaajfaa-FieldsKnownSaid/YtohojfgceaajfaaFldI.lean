/- Things that came in, opened; the contract of large. -/
import Derived.Test.YtohojfgceaajfaaFldH
import Derived.Test.YtohojfgceaajfaaBaseC
namespace Go.Proofs.Ytohojfgceaajfaa
open Go.ChangeShapes Go.WideShapes Go.ChangeAt Go.RowKit

structure It where
  kind : Nat
  num : Nat
  A : Option Addr
  n : Nat
  cap : Nat
  d : Nat → Nat
instance : Inhabited It := ⟨⟨0, 0, none, 0, 0, fun _ => 0⟩⟩
def itV (x : It) : Array Value := #[.int .u8 (x.kind : Int), .int .u64 (x.num : Int), .slice x.A x.n x.cap]
def ItOk (w : World) (B : Nat) (x : It) : Prop := x.kind < 256 ∧ x.num < 18446744073709551616 ∧ (∀ i, x.d i < 256) ∧ x.n ≤ x.cap ∧ x.cap ≤ maxLen ∧ Holds w B x.A x.n x.d ∧ (x.A = none → x.cap = 0)
def Items (w : World) (B : Nat) (LA : Option Addr) (ln : Nat) (x : Nat → It) : Prop :=
  0 < ln → ∃ ad, LA = some ad ∧ ad.block < B ∧ ∀ i, i < ln → ItOk w B (x i) ∧ ∀ j u, (itV (x i))[j]? = some u → w.cell? ((ad.add (i * 3)).add j) = some u
theorem ItOk.below {w w' : World} {B : Nat} {x : It} (h : ItOk w B x) (hb : Below B w w') : ItOk w' B x :=
  ⟨h.1, h.2.1, h.2.2.1, h.2.2.2.1, h.2.2.2.2.1, h.2.2.2.2.2.1.below hb, h.2.2.2.2.2.2⟩
theorem Items.below {w w' : World} {B : Nat} {LA : Option Addr} {ln : Nat} {x : Nat → It} (h : Items w B LA ln x) (hb : Below B w w') : Items w' B LA ln x := fun h0 => by
  obtain ⟨ad, e, hl, hi⟩ := h h0
  refine ⟨ad, e, hl, fun i hlt => ⟨(hi i hlt).1.below hb, fun j u hu => ?_⟩⟩
  rw [← (hi i hlt).2 j u hu]
  exact hb.cell (by rw [add_block, add_block]; exact hl)

theorem structI : ∃ f0 f1 f2, Try.prog.underlying 30 = some (.struct #[f0, f1, f2]) ∧ f0.type = 5 ∧ f0.offset = 0 ∧ f1.type = 28 ∧ f1.offset = 1 ∧ f2.type = 25 ∧ f2.offset = 2 :=
  ⟨_, _, _, Try.underlying30, rfl, rfl, rfl, rfl, rfl, rfl⟩
theorem cellsI : Try.prog.cellsOf 30 = 3 := by kernel_rfl
theorem cellsU64 : Try.prog.cellsOf 28 = 1 := by kernel_rfl
theorem cellsBS : Try.prog.cellsOf 25 = 1 := by kernel_rfl

theorem open_items {H : Type} {enc : TypeId × Value → H} {w : World} {base : Nat} {sp : Nat → Bool} {held : Bool} {r : Reach} {b0 : Nat} {v : Value} {y : DataW H} {ps : List MemPlace} (_lt : ∀ x ∈ ps, x.block < w.heap.size)
    (hval : Value.okWide Try.prog w r b0 22 v) (hd : DataW.Trod enc Try.prog w base sp held 22 v y ps) :
    ∃ (x : Nat → It) (LA : Option Addr) (ln lcap : Nat), ln ≤ lcap ∧ lcap ≤ maxLen ∧ Items w w.heap.size LA ln x ∧ v = .slice LA ln lcap := by
  obtain ⟨A, n, cap, rfl⟩ := okWide_slice Try.underlying22 hval
  obtain ⟨fuel, hf⟩ := hd
  rcases Go.Deep.open_slice Try.underlying22 hf with ⟨hcs, _⟩ | ⟨a, len, cap', m, k, D, Pl, hcs, _, hl, hm, hmm, _, hel⟩
  · simp [Value.cells] at hcs
    obtain ⟨rfl, rfl, rfl⟩ := hcs
    exact ⟨fun _ => default, none, 0, 0, Nat.le_refl _, by decide, fun h => absurd h (by omega), rfl⟩
  · simp [Value.cells] at hcs
    obtain ⟨rfl, rfl, rfl⟩ := hcs
    have hnm : n ≤ m := by rw [hmm]; split <;> omega
    obtain ⟨f0, f1, f2, hS, t0, o0, t1, o1, t2, o2⟩ := structI
    have hone : ∀ i, i < n → ∃ x : It, ItOk w w.heap.size x ∧ ∀ j u, (itV x)[j]? = some u → w.cell? ((a.add (i * 3)).add j) = some u := by
      intro i hi
      obtain ⟨cs', hc, ht⟩ := hel i (by omega)
      rw [cellsI] at hc
      obtain ⟨_, hcl, hat⟩ := World.cells?_some hc
      obtain ⟨y0, y1, y2, k', _, _, h0, h1, h2⟩ := Go.Deep.trod_struct3 hS ht
      match cs', hcl with
      | [c0, c1, c2], _ =>
        rw [t0, o0, cellsU8] at h0
        rw [t1, o1, cellsU64] at h1
        rw [t2, o2, cellsBS] at h2
        obtain ⟨n0, rfl, w0⟩ := trod_num Try.underlying5 (v := c0) h0
        obtain ⟨n1, rfl, w1⟩ := trod_num Try.underlying28 (v := c1) h1
        obtain ⟨d, nn, cp, A2, hd, hnc, hcm, hh, hA, rfl⟩ := trod_bytes Try.underlying25 Try.underlying5 cellsU8 (v := c2) h2
        obtain ⟨q0, hq0, rfl⟩ := u8_of n0 w0
        obtain ⟨q1, hq1, rfl⟩ := u64_of n1 w1
        refine ⟨⟨q0, q1, A2, nn, cp, d⟩, ⟨hq0, hq1, hd, hnc, hcm, hh, hA⟩, fun j u hu => ?_⟩
        have hj : j < 3 := by
          have := (Array.getElem?_eq_some_iff.1 hu).1
          simpa [itV] using this
        rw [hat j hj, ← hu]
        simp [itV]
    obtain ⟨x, hx⟩ := Go.Deep.choose_lt hone
    refine ⟨x, some a, n, cap, hl, hm, fun h0 => ⟨a, rfl, ?_, hx⟩, rfl⟩
    have := (hx 0 h0).2 0 _ rfl
    have := block_lt_of_cell this
    rwa [add_block, add_block] at this

/-- How many bytes the first things have. -/
def sumN (x : Nat → It) : Nat → Nat
  | 0 => 0
  | i + 1 => sumN x i + (x i).n
theorem sumN_mono (x : Nat → It) (i j : Nat) (h : i ≤ j) : sumN x i ≤ sumN x j := by
  induction j with
  | zero => rw [show i = 0 by omega]; exact Nat.le_refl _
  | succ j ih =>
    by_cases e : i = j + 1
    · subst e; exact Nat.le_refl _
    · have := ih (by omega); rw [sumN]; omega
def largeB (x : Nat → It) (ln : Nat) : Bool := decide (100 < ln) || decide (3000 < sumN x ln)

set_option maxHeartbeats 400000 in
theorem large_any (x : Nat → It) (LA : Option Addr) (ln lcap : Nat) (hlc : lcap ≤ maxLen) (hl : ln ≤ lcap) (w : World) (B : Nat) (hI : Items w B LA ln x) :
    Calls Try.prog 8 #[.slice LA ln lcap] w fun e w' => e = .returned (.bool (largeB x ln)) ∧ w = w' := by
  have HI := Lib.hid hI
  unfold maxLen at hlc
  clear hI
  by_cases h100 : 100 < ln
  · have HF := Lib.hid (show largeB x ln = true by simp [largeB, h100])
    go_enter Try.func8, Try.ntmps8
    go_wp2_with fail
    go_ret
    exact ⟨ret_bool HF.out.symm, rfl⟩
  · go_enter Try.func8, Try.ntmps8
    go_wp2_with fail
    go_loop [3, 4] (fun s i => ∃ k m : Nat, k ≤ ln ∧ i = .int .i64 k ∧ s = .int .i64 m ∧ m ≤ 3000 ∧ Hid (m = sumN x k)) (fun _ i => ln - (intOf i).toNat)
    case atStart => exact ⟨0, 0, Nat.zero_le _, rfl, rfl, by omega, Lib.hid rfl⟩
    case round =>
      obtain ⟨k, m, hk, rfl, rfl, hm, HM⟩ := hrel
      by_cases hlt : k < ln
      · obtain ⟨ad, rfl, hlb, hi⟩ := HI.out (by omega)
        obtain ⟨hok, hc⟩ := hi k hlt
        have hcell : w.cell? ⟨(ad.add (k * 3)).block, (ad.add (k * 3)).off + 2, none⟩ = some (.slice (x k).A (x k).n (x k).cap) := hc 2 _ rfl
        have hmx : (x k).n ≤ 9223372036854775807 := by have := hok.2.2.2.1; have := hok.2.2.2.2.1; unfold maxLen at this; omega
        clear hi hc hok
        have hss := sumN_mono x (k + 1) ln hlt
        have hs1 : sumN x (k + 1) = m + (x k).n := by rw [sumN, HM.out]
        have HS := Lib.hid hs1
        have HSS := Lib.hid hss
        clear hs1 hss
        obtain ⟨q, Q⟩ : ∃ q, Hid (q = (x k).n) := ⟨_, Lib.hid rfl⟩
        rw [← Q.out] at hmx hcell HS
        by_cases hbig : 3000 - m < q
        · have hb' : decide (3000 - (m : Int) < (q : Int)) = true := decide_eq_true (by omega)
          have HF := Lib.hid (show largeB x ln = true by
            have := HS.out; have := HSS.out
            simp [largeB]; omega)
          clear hbig
          go_wp2_with fail
          go_ret
          exact ⟨ret_bool HF.out.symm, rfl⟩
        · have hb' : decide (3000 - (m : Int) < (q : Int)) = false := decide_eq_false (by omega)
          go_wp2_with fail
          go_round
          case rel => exact ⟨k + 1, m + q, by omega, by go_num, by go_num, by omega, Lib.hid HS.out.symm⟩
          case measure => simp [intOf]; omega
      · obtain rfl : k = ln := by omega
        have HF := Lib.hid (show largeB x k = false by
          have := HM.out
          simp [largeB]; omega)
        go_wp2_with fail
        go_ret
        exact ⟨ret_bool HF.out.symm, rfl⟩
end Go.Proofs.Ytohojfgceaajfaa
