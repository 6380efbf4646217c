/- disk: calls that came in, opened. -/
import Derived.Test.YtfgbaigpmhnoaaaDmSo
import Derived.Deep.Strs
import Derived.DataReads
set_option linter.unusedVariables false
set_option linter.unusedSimpArgs false
namespace Go.Proofs.Ytfgbaigpmhnoaaa
open Go.ChangeShapes Go.WideShapes Go.ChangeAt Go.RowKit Go.BigFrame Go.Maps
open Dsk (Fl St Ok get put drop used)

structure Cl where
  kind : Nat
  name : ByteArray
  to : ByteArray
  b : List Nat
  bv : Value
  n : Int
  ks : List Int
  kv : Value
instance : Inhabited Cl := ⟨⟨0, ⟨#[]⟩, ⟨#[]⟩, [], .slice none 0 0, 0, [], .slice none 0 0⟩⟩
def clV (x : Cl) : List Value := [.int .u8 (x.kind : Int), .string x.name, .string x.to, x.bv, .int .i64 x.n, x.kv]
/-- A row of numbers below a block. -/
def RInt (w : World) (B : Nat) (v : Value) (ks : List Int) : Prop := ∃ A cap, v = .slice A ks.length cap ∧ ks.length ≤ cap ∧ cap ≤ maxLen ∧ IntsAt w (fun b => b < B) A ks
structure ClOk (w : World) (B : Nat) (x : Cl) : Prop where
  kind : x.kind < 256
  name : x.name.size ≤ maxLen
  to : x.to.size ≤ maxLen
  b : RB w B x.bv x.b
  n : (Lit.int .i64 x.n).wf = true
  ks : RInt w B x.kv x.ks
def Calls6 (w : World) (B : Nat) (LA : Option Addr) (ln : Nat) (x : Nat → Cl) : Prop :=
  0 < ln → ∃ ad, LA = some ad ∧ ad.block < B ∧ ∀ i, i < ln → ClOk w B (x i) ∧ ∀ j u, (clV (x i))[j]? = some u → w.cell? ((ad.add (i * 6)).add j) = some u
theorem RInt.below {w w' : World} {B : Nat} {v : Value} {ks : List Int} (h : RInt w B v ks) (hb : Below B w w') : RInt w' B v ks := by
  obtain ⟨A, cap, e, h1, h2, h3⟩ := h
  refine ⟨A, cap, e, h1, h2, fun j hj => ?_⟩
  obtain ⟨ad, e1, hq, hc⟩ := h3 j hj
  exact ⟨ad, e1, hq, (hb.cell (by rw [add_block]; exact hq)).trans hc⟩
theorem ClOk.below {w w' : World} {B : Nat} {x : Cl} (h : ClOk w B x) (hb : Below B w w') : ClOk w' B x := ⟨h.kind, h.name, h.to, h.b.below hb, h.n, h.ks.below hb⟩
theorem Calls6.below {w w' : World} {B : Nat} {LA : Option Addr} {ln : Nat} {x : Nat → Cl} (h : Calls6 w B LA ln x) (hb : Below B w w') : Calls6 w' B LA ln x := fun h0 => by
  obtain ⟨ad, e, hl, hi⟩ := h h0
  refine ⟨ad, e, hl, fun i hlt => ⟨(hi i hlt).1.below hb, fun j u hu => ?_⟩⟩
  rw [← (hi i hlt).2 j u hu]
  exact hb.cell (by rw [add_block, add_block]; exact hl)
theorem Calls6.at {w : World} {B : Nat} {LA : Option Addr} {ln : Nat} {x : Nat → Cl} (h : Calls6 w B LA ln x) {i : Nat} (hi : i < ln) : ∃ ad, LA = some ad ∧ ClOk w B (x i) ∧ w.cell? (ad.add (i * 6)) = some (.int .u8 ((x i).kind : Int)) ∧ w.cell? ⟨(ad.add (i * 6)).block, (ad.add (i * 6)).off + 1, none⟩ = some (.string (x i).name) ∧ w.cell? ⟨(ad.add (i * 6)).block, (ad.add (i * 6)).off + 2, none⟩ = some (.string (x i).to) ∧
    w.cell? ⟨(ad.add (i * 6)).block, (ad.add (i * 6)).off + 3, none⟩ = some (x i).bv ∧ w.cell? ⟨(ad.add (i * 6)).block, (ad.add (i * 6)).off + 4, none⟩ = some (.int .i64 (x i).n) ∧ w.cell? ⟨(ad.add (i * 6)).block, (ad.add (i * 6)).off + 5, none⟩ = some (x i).kv := by
  obtain ⟨ad, e, _, hc⟩ := h (by omega)
  obtain ⟨h1, h2⟩ := hc i hi
  exact ⟨ad, e, h1, h2 0 _ rfl, h2 1 _ rfl, h2 2 _ rfl, h2 3 _ rfl, h2 4 _ rfl, h2 5 _ rfl⟩
theorem structC : ∃ f0 f1 f2 f3 f4 f5, Try.prog.underlying 32 = some (.struct #[f0, f1, f2, f3, f4, f5]) ∧ (f0.type = 5 ∧ f0.offset = 0) ∧ (f1.type = 9 ∧ f1.offset = 1) ∧ (f2.type = 9 ∧ f2.offset = 2) ∧ (f3.type = 29 ∧ f3.offset = 3) ∧ (f4.type = 3 ∧ f4.offset = 4) ∧ (f5.type = 30 ∧ f5.offset = 5) :=
  ⟨_, _, _, _, _, _, Try.underlying32, ⟨rfl, rfl⟩, ⟨rfl, rfl⟩, ⟨rfl, rfl⟩, ⟨rfl, rfl⟩, ⟨rfl, rfl⟩, ⟨rfl, rfl⟩⟩
theorem cellsC : Try.prog.cellsOf 32 = 6 := by kernel_rfl
theorem cellsI64 : Try.prog.cellsOf 3 = 1 := by kernel_rfl
theorem cellsStr : Try.prog.cellsOf 9 = 1 := by kernel_rfl
theorem cellsIS : Try.prog.cellsOf 30 = 1 := by kernel_rfl
theorem trod_ints1 {H : Type} {enc : TypeId × Value → H} {w : World} {base : Nat} {sp : Nat → Bool} {held : Bool} {fuel : Nat} {v : Value} {x : DataW H × List MemPlace}
    (hf : DataW.trod enc Try.prog w base sp held fuel 30 [v] = some x) : ∃ ks : List Int, RInt w w.heap.size v ks := by
  rcases Go.Deep.open_slice1 Try.underlying30 cellsI64 hf with ⟨hcs, _⟩ | ⟨a, n, cap, m, k, V, D, Pl, hcs, _, hl, hm, hmm, _, hel⟩
  · have hv : v = .slice none 0 0 := by simpa using hcs
    subst hv
    exact ⟨[], none, 0, rfl, Nat.le_refl _, by decide, fun j hj => by simp at hj⟩
  · have hv : v = .slice (some a) n cap := by simpa using hcs
    subst hv
    have hnm : n ≤ m := by rw [hmm]; split <;> omega
    have hc : ∀ i, i < n → ∃ b : Int, w.cell? (a.add i) = some (.int .i64 b) := by
      intro i hi
      obtain ⟨h2, h3⟩ := hel i (by omega)
      obtain ⟨b, eb, _, _⟩ := DataW.trod_int Try.underlying3 h3
      simp at eb
      exact ⟨b, by rw [h2, eb]⟩
    obtain ⟨f, hfz⟩ : ∃ f : Nat → Int, ∀ i, i < n → w.cell? (a.add i) = some (.int .i64 (f i)) := ⟨fun i => if h : i < n then Classical.choose (hc i h) else 0, fun i hi => by
      have := Classical.choose_spec (hc i hi)
      simp only [hi, dif_pos]
      exact this⟩
    have hlen : ((List.range n).map f).length = n := by simp
    refine ⟨(List.range n).map f, some a, cap, by rw [hlen], by rw [hlen]; exact hl, hm, fun j hj => ⟨a, rfl, ?_, ?_⟩⟩
    · rw [hlen] at hj
      have := block_lt_of_cell (hfz j hj)
      rwa [add_block] at this
    · rw [hlen] at hj
      rw [hfz j hj]
      simp [hj, List.getD]
set_option maxRecDepth 100000 in
theorem open_calls {H : Type} {enc : TypeId × Value → H} {w : World} {base : Nat} {sp : Nat → Bool} {held : Bool} {r : Reach} {b0 : Nat} {v : Value} {y : DataW H} {ps : List MemPlace} (_lt : ∀ x ∈ ps, x.block < w.heap.size)
    (hval : Value.okWide Try.prog w r b0 22 v) (hd : DataW.Trod enc Try.prog w base sp held 22 v y ps) :
    ∃ (x : Nat → Cl) (LA : Option Addr) (ln lcap : Nat), (ln ≤ lcap ∧ lcap ≤ maxLen) ∧ Calls6 w w.heap.size LA ln x ∧ .slice LA ln lcap = v := by
  obtain ⟨A, n, cap, rfl⟩ := okWide_slice Try.underlying22 hval
  obtain ⟨fuel, hf⟩ := hd
  rcases Go.Deep.open_slice Try.underlying22 hf with ⟨hcs, _⟩ | ⟨a, len, cap', m, k, D, Pl, hcs, _, hl, hm, hmm, _, hel⟩
  · simp [Value.cells] at hcs
    obtain ⟨rfl, rfl, rfl⟩ := hcs
    exact ⟨fun _ => default, none, 0, 0, ⟨Nat.le_refl _, by decide⟩, fun h => absurd h (by omega), rfl⟩
  · simp [Value.cells] at hcs
    obtain ⟨rfl, rfl, rfl⟩ := hcs
    have hnm : n ≤ m := by rw [hmm]; split <;> omega
    obtain ⟨f0, f1, f2, f3, f4, f5, hS, ⟨t0, o0⟩, ⟨t1, o1⟩, ⟨t2, o2⟩, ⟨t3, o3⟩, ⟨t4, o4⟩, ⟨t5, o5⟩⟩ := structC
    have hone : ∀ i, i < n → ∃ x : Cl, ClOk w w.heap.size x ∧ ∀ j u, (clV x)[j]? = some u → w.cell? ((a.add (i * 6)).add j) = some u := by
      intro i hi
      obtain ⟨cs', hc, ht⟩ := hel i (by omega)
      rw [cellsC] at hc
      obtain ⟨_, hcl, hat⟩ := World.cells?_some hc
      obtain ⟨ys, k', _, _, _, hyl, hfs⟩ := DataW.trod_struct hS ht
      match cs', hcl with
      | [c0, c1, c2, c3, c4, c5], _ =>
        have g0 := hfs 0 f0 rfl
        have g1 := hfs 1 f1 rfl
        have g2 := hfs 2 f2 rfl
        have g3 := hfs 3 f3 rfl
        have g4 := hfs 4 f4 rfl
        have g5 := hfs 5 f5 rfl
        rw [t0, o0, cellsU8] at g0
        rw [t1, o1, cellsStr] at g1
        rw [t2, o2, cellsStr] at g2
        rw [t3, o3, cellsBytes] at g3
        rw [t4, o4, cellsI64] at g4
        rw [t5, o5, cellsIS] at g5
        have hys : ys.length = 6 := hyl
        match ys, hys with
        | [y0, y1, y2, y3, y4, y5], _ =>
          obtain ⟨n0, rfl, w0⟩ := trod_num Try.underlying5 (v := c0) g0
          obtain ⟨s1, e1, _, z1⟩ := DataW.trod_string Try.underlying9 g1
          obtain ⟨s2, e2, _, z2⟩ := DataW.trod_string Try.underlying9 g2
          obtain ⟨l3, hl3⟩ := trod_bytes1 (v := c3) g3
          obtain ⟨n4, rfl, w4⟩ := trod_num Try.underlying3 (v := c4) g4
          obtain ⟨ks, hks⟩ := trod_ints1 (v := c5) g5
          obtain ⟨q0, hq0, rfl⟩ := u8_of n0 w0
          have e1' : c1 = .string s1 := by simpa using e1
          have e2' : c2 = .string s2 := by simpa using e2
          subst e1' e2'
          refine ⟨⟨q0, s1, s2, l3, c3, n4, ks, c5⟩, ⟨hq0, z1, z2, hl3, w4, hks⟩, fun j u hu => ?_⟩
          have hj : j < 6 := (List.getElem?_eq_some_iff.1 hu).1
          rw [hat j hj, ← hu]
          rfl
    obtain ⟨x, hx⟩ := Go.Deep.choose_lt hone
    refine ⟨x, some a, n, cap, ⟨hl, hm⟩, fun h0 => ⟨a, rfl, ?_, hx⟩, rfl⟩
    have := (hx 0 h0).2 0 _ rfl
    have := block_lt_of_cell this
    rwa [add_block, add_block] at this
end Go.Proofs.Ytfgbaigpmhnoaaa

/- disk: large. -/
namespace Go.Proofs.Ytfgbaigpmhnoaaa
open Go.RowKit Go.BigFrame Go.Maps
open Dsk (Fl St Ok get put drop used)

def FitC (x : Cl) : Prop := x.name.size ≤ 5000 ∧ x.to.size ≤ 5000 ∧ x.b.length ≤ 5000 ∧ x.ks.length ≤ 5000
def LargePost (w : World) (ln : Nat) (x : Nat → Cl) (e : Ending) (w' : World) : Prop := ∃ b, e = .returned (.bool b) ∧ Below w.heap.size w w' ∧ (b = false → ln ≤ 60 ∧ ∀ i, i < ln → FitC (x i))
set_option maxRecDepth 100000 in
set_option maxHeartbeats 4000000 in
theorem large_any (w : World) (LA : Option Addr) (ln lcap : Nat) (x : Nat → Cl) (h : Calls6 w w.heap.size LA ln x) (hl : ln ≤ lcap) (hlm : lcap ≤ maxLen) :
    Calls Try.prog 7 #[.slice LA ln lcap] w (LargePost w ln x) := by
  have HP := Lib.hid (fun (b : Bool) (w' : World) (hb : Below w.heap.size w w') (hf : b = false → ln ≤ 60 ∧ ∀ i, i < ln → FitC (x i)) => show LargePost w ln x (.returned (.bool b)) w' from ⟨b, rfl, hb, hf⟩)
  generalize LargePost w ln x = post at *
  have HC := Lib.hid h
  unfold maxLen at hlm
  clear h
  by_cases h60 : 60 < ln
  · have HQ := Lib.hid (HP.out true w (Below.refl _ _) (fun e => by cases e))
    clear HP
    go_enter Try.func7, Try.ntmps7
    go_wp2
    exact HQ.out
  · have hl60 : ln ≤ 60 := by omega
    clear h60
    go_enter Try.func7, Try.ntmps7
    go_wp2
    go_loopw [3, 4, 5] (fun nv iv _ wr => ∃ i n : Nat, nv = .int .i64 (n : Int) ∧ iv = .int .i64 (i : Int) ∧ i ≤ ln ∧ n ≤ 20000 ∧ Hid (∀ j, j < i → FitC (x j)) ∧ Hid (Below w.heap.size w wr)) (fun _ iv _ _ => ln - (intOf iv).toNat)
    case atStart => exact ⟨0, 0, rfl, rfl, by omega, by omega, Lib.hid (fun j hj => by omega), Lib.hid (Below.refl _ _)⟩
    case round =>
      obtain ⟨i, n, rfl, rfl, hi, hn, HF, HB⟩ := hrel
      have hwz := HB.out.size
      by_cases hlt : i < ln
      · obtain ⟨ad, rfl, hok, g0, g1, g2, g3, g4, g5⟩ := (HC.out.below HB.out).at hlt
        obtain ⟨Ab, cb, hbv, hb1, hb2, _⟩ := hok.b
        obtain ⟨Ak, ck, hkv, hk1, hk2, _⟩ := hok.ks
        rw [hbv] at g3
        rw [hkv] at g5
        have hnz := hok.name
        have htz := hok.to
        unfold maxLen at hnz htz hb2 hk2
        have HFX := Lib.hid (fun (h1 : (x i).name.size ≤ 5000) (h2 : (x i).to.size ≤ 5000) (h3 : (x i).b.length ≤ 5000) (h4 : (x i).ks.length ≤ 5000) => show FitC (x i) from ⟨h1, h2, h3, h4⟩)
        clear hok hbv hkv
        generalize (x i).name = nm at *
        generalize (x i).to = to at *
        generalize (x i).b.length = bl at *
        generalize (x i).ks.length = kl at *
        generalize (x i).n = xn at *
        generalize (x i).kind = xk at *
        have HBt := Lib.hid (fun (vs : Array Value) (T : TypeId) => HP.out true (wr.alloc (.cells vs T)) (HB.out.alloc hwz _) (fun e => by cases e))
        by_cases t1 : 5000 - (n : Int) < (nm.size : Int)
        · have d1 : decide (5000 - (n : Int) < (nm.size : Int)) = true := decide_eq_true t1
          clear HP t1
          go_wp2
          exact HBt.out _ _
        · have d1 : decide (5000 - (n : Int) < (nm.size : Int)) = false := decide_eq_false t1
          by_cases t2 : 5000 - (n : Int) < (to.size : Int)
          · have d2 : decide (5000 - (n : Int) < (to.size : Int)) = true := decide_eq_true t2
            clear HP t2
            go_wp2
            exact HBt.out _ _
          · have d2 : decide (5000 - (n : Int) < (to.size : Int)) = false := decide_eq_false t2
            by_cases t3 : 5000 - (n : Int) < (bl : Int)
            · have d3 : decide (5000 - (n : Int) < (bl : Int)) = true := decide_eq_true t3
              clear HP t3
              go_wp2
              exact HBt.out _ _
            · have d3 : decide (5000 - (n : Int) < (bl : Int)) = false := decide_eq_false t3
              by_cases t4 : 5000 - (n : Int) < (kl : Int)
              · have d4 : decide (5000 - (n : Int) < (kl : Int)) = true := decide_eq_true t4
                clear HP t4
                go_wp2
                exact HBt.out _ _
              · have d4 : decide (5000 - (n : Int) < (kl : Int)) = false := decide_eq_false t4
                have HF1 := Lib.hid (show ∀ j, j < i + 1 → FitC (x j) from fun j hj => by
                  by_cases e : j = i
                  · subst e; exact HFX.out (by omega) (by omega) (by omega) (by omega)
                  · exact HF.out j (by omega))
                have HB1 := Lib.hid (fun (vs : Array Value) (T : TypeId) => HB.out.alloc hwz (.cells vs T (0, 0)))
                have q1 : nm.size ≤ 5000 := by omega
                have q2 : to.size ≤ 5000 := by omega
                have q3 : bl ≤ 5000 := by omega
                have q4 : kl ≤ 5000 := by omega
                have q5 : n + nm.size + to.size + bl + kl ≤ 20000 := by omega
                clear HBt HFX HF HB t1 t2 t3 t4
                go_wp2
                go_roundw
                case rel => exact ⟨i + 1, n + nm.size + to.size + bl + kl, by go_num, by go_num, by omega, by omega, HF1, Lib.hid (HB1.out _ _)⟩
                case measure => simp [intOf]; omega
      · obtain rfl : i = ln := by omega
        have HQ := Lib.hid (fun b => HP.out b wr HB.out (fun _ => ⟨hl60, HF.out⟩))
        clear HP HF HB
        go_wp2
        exact HQ.out _
end Go.Proofs.Ytfgbaigpmhnoaaa
