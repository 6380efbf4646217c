/- numbers: read, size. -/
import Derived.Test.YtbmmoclaijoofaaGreatDoorNumVc
set_option linter.unusedVariables false
set_option linter.unusedSimpArgs false
namespace Go.Proofs.YtbmmoclaijoofaaGreatDoor
open Go.RowKit Go.BigFrame
open Num (nanB sg rg rv sv tv key eqF ltF cmpI wd infR R53 P0 wholeR flN ONE decS expS textR textN oddM oddE)
open Ver (brk)

theorem str_eq_is (x y : ByteArray) : (x.toList == y.toList) = decide (x = y) := by
  rw [Bool.eq_iff_iff, beq_iff_eq, decide_eq_true_iff]
  constructor
  · intro h
    apply str_ext
    rwa [Lib.toList_data, Lib.toList_data] at h
  · intro h; rw [h]
theorem dec_range : ∀ (n : Nat), ∀ c ∈ Lib.decDigits n, 48 ≤ c.toNat ∧ c.toNat ≤ 57 := by
  intro n
  induction n using Nat.strongRecOn with
  | _ n ih =>
    intro c hc
    rw [Lib.decDigits] at hc
    split at hc
    · rename_i h
      rw [List.mem_singleton] at hc
      subst hc
      rw [show (UInt8.ofNat (48 + n)).toNat = 48 + n by simp; omega]
      omega
    · rename_i h
      rcases List.mem_append.1 hc with h1 | h1
      · exact ih (n / 10) (by omega) c h1
      · rw [List.mem_singleton] at h1
        subst h1
        rw [show (UInt8.ofNat (48 + n % 10)).toNat = 48 + n % 10 by simp; omega]
        omega
theorem dec_head (n : Nat) : ∃ c l, Lib.decDigits n = c :: l ∧ 48 ≤ c.toNat ∧ c.toNat ≤ 57 := by
  cases h : Lib.decDigits n with
  | nil =>
    exfalso
    rw [Lib.decDigits] at h
    split at h
    · cases h
    · have := congrArg List.length h
      simp at this
  | cons c l => exact ⟨c, l, rfl, dec_range n c (by rw [h]; simp)⟩
theorem p53_snoc : ∀ (l : List UInt8) (acc : Nat) (c : UInt8), p53 acc (l ++ [c]) = (p53 acc l).bind fun v => if 48 ≤ c.toNat ∧ c.toNat ≤ 57 then (if 9007199254740991 < v * 10 + (c.toNat - 48) then none else some (v * 10 + (c.toNat - 48))) else none
  | [], acc, c => by simp [p53]
  | d :: l, acc, c => by
    rw [List.cons_append, p53, p53]
    split
    · split
      · rfl
      · exact p53_snoc l _ c
    · rfl
theorem p53_dec : ∀ (n : Nat), n < 2 ^ 53 → p53 0 (Lib.decDigits n) = some n := by
  intro n
  induction n using Nat.strongRecOn with
  | _ n ih =>
    intro hn
    rw [Lib.decDigits]
    split
    · rename_i h
      unfold p53
      rw [show (UInt8.ofNat (48 + n)).toNat = 48 + n by simp; omega, if_pos (by omega), if_neg (by omega)]
      unfold p53
      congr 1
      omega
    · rename_i h
      rw [p53_snoc, ih (n / 10) (by omega) (by omega), Option.bind_some, show (UInt8.ofNat (48 + n % 10)).toNat = 48 + n % 10 by simp; omega, if_pos (by omega), if_neg (by omega)]
      congr 1
      omega
theorem p53_le : ∀ (l : List UInt8) (acc u : Nat), acc < 2 ^ 53 → p53 acc l = some u → u < 2 ^ 53
  | [], acc, u, h, e => by unfold p53 at e; cases e; exact h
  | c :: l, acc, u, h, e => by
    unfold p53 at e
    split at e
    · split at e
      · cases e
      · exact p53_le l _ u (by omega) e
    · cases e
theorem uint_lt {s : ByteArray} {u : Nat} (h : uintS s = some u) : u < 2 ^ 53 := by
  unfold uintS at h
  split at h
  · cases h
  · exact p53_le _ 0 u (by decide) h
theorem uint_dec (n : Nat) (h : n < 2 ^ 53) : uintS (decS n) = some n := by
  unfold uintS
  rw [if_neg, decS_list, p53_dec n h]
  obtain ⟨c, l, h1, _⟩ := dec_head n
  intro e
  have := len_data (decS n)
  rw [decS_list, h1, e] at this
  simp at this
theorem p10_snoc : ∀ (l : List UInt8) (acc : Nat) (c : UInt8) (v : Nat), Lib.parseUint10 acc l = .ok v → 48 ≤ c.toNat → c.toNat ≤ 57 → v * 10 + 9 < 1844674407370955162 → Lib.parseUint10 acc (l ++ [c]) = .ok (v * 10 + (c.toNat - 48))
  | [], acc, c, v, h, h1, h2, h3 => by
    unfold Lib.parseUint10 at h
    cases h
    rw [List.nil_append]
    unfold Lib.parseUint10
    rw [if_pos ⟨h1, h2⟩, if_neg (by omega), if_neg (by omega)]
    rfl
  | d :: l, acc, c, v, h, h1, h2, h3 => by
    rw [List.cons_append]
    unfold Lib.parseUint10 at h ⊢
    split at h
    · rename_i hd
      rw [if_pos hd]
      split at h
      · cases h
      · rename_i ha
        rw [if_neg ha]
        split at h
        · cases h
        · rename_i hb
          rw [if_neg hb]
          exact p10_snoc l _ c v h h1 h2 h3
    · cases h
theorem p10_dec : ∀ (n : Nat), n < 10 ^ 9 → Lib.parseUint10 0 (Lib.decDigits n) = .ok n := by
  intro n
  induction n using Nat.strongRecOn with
  | _ n ih =>
    intro hn
    rw [Lib.decDigits]
    split
    · rename_i h
      have := p10_snoc [] 0 (UInt8.ofNat (48 + n)) 0 rfl (by rw [show (UInt8.ofNat (48 + n)).toNat = 48 + n by simp; omega]; omega) (by rw [show (UInt8.ofNat (48 + n)).toNat = 48 + n by simp; omega]; omega) (by decide)
      rw [List.nil_append] at this
      rw [this, show (UInt8.ofNat (48 + n)).toNat = 48 + n by simp; omega]
      congr 1
      omega
    · rename_i h
      have e : (UInt8.ofNat (48 + n % 10)).toNat = 48 + n % 10 := by simp; omega
      rw [p10_snoc _ 0 _ (n / 10) (ih (n / 10) (by omega) (by omega)) (by rw [e]; omega) (by rw [e]; omega) (by omega), e]
      congr 1
      omega
theorem atoi_exp (E : Int) (h : E.natAbs < 10 ^ 9) : atoiO (expS E) = some E := by
  unfold atoiO Num.expS
  by_cases hE : E < 0
  · rw [if_pos hE]
    obtain ⟨c, l, h1, _⟩ := dec_head (-E).toNat
    have e : ((⟨#[45]⟩ : ByteArray) ++ decS (-E).toNat).data.toList = 45 :: Lib.decDigits (-E).toNat := by simp [decS_list]
    rw [e]
    have hm : Lib.parseMag (Lib.decDigits (-E).toNat) = .ok (-E).toNat := by
      unfold Lib.parseMag
      rw [if_neg (by rw [h1]; simp), p10_dec _ (by omega)]
    unfold Lib.atoiAll
    dsimp only
    have h45 : (45 : UInt8).toNat = 45 := rfl
    rw [h45, if_pos (by simp), hm]
    dsimp only
    rw [if_neg (by simp), if_neg (by omega), if_pos rfl]
    exact congrArg some (show -((-E).toNat : Int) = E by omega)
  · rw [if_neg hE]
    obtain ⟨c, l, h1, h2, h3⟩ := dec_head E.toNat
    have hm : Lib.parseMag (Lib.decDigits E.toNat) = .ok E.toNat := by
      unfold Lib.parseMag
      rw [if_neg (by rw [h1]; simp), p10_dec _ (by omega)]
    rw [decS_list]
    rw [h1] at hm ⊢
    unfold Lib.atoiAll
    dsimp only
    rw [if_neg (by omega), hm]
    dsimp only
    rw [if_neg (by omega), if_neg (by omega), if_neg (by omega)]
    exact congrArg some (show (E.toNat : Int) = E by omega)
theorem brk_at (c : UInt8) : ∀ (a b : List UInt8), c ∉ a → brk c (a ++ c :: b) = (a, b, true)
  | [], b, _ => by unfold Ver.brk; simp
  | x :: a, b, h => by
    have hx : x ≠ c := fun e => h (by simp [e])
    rw [List.cons_append, Ver.brk, if_neg hx, brk_at c a b (fun e => h (by simp [e]))]
theorem no_p (n : Nat) : (112 : UInt8) ∉ Lib.decDigits n := fun h => by
  have := dec_range n 112 h
  simp at this
/-- A number's text, taken apart. -/
theorem text_head {r : Nat} (hr : r ≤ infR) (hi : r ≠ infR) : ∃ c l, (textR r).data.toList = c :: l ∧ 48 ≤ c.toNat ∧ c.toNat ≤ 57 := by
  unfold Num.textR
  rw [if_neg hi]
  split
  · rw [decS_list]; exact dec_head _
  · obtain ⟨c, l, h1, h2⟩ := dec_head (oddM r)
    refine ⟨c, l ++ 112 :: (expS ((oddE r : Int) - 1074)).data.toList, ?_, h2⟩
    have e : (decS (oddM r) ++ ⟨#[112]⟩ ++ expS ((oddE r : Int) - 1074)).data.toList = Lib.decDigits (oddM r) ++ 112 :: (expS ((oddE r : Int) - 1074)).data.toList := by simp [decS_list]
    rw [e, h1]; rfl
theorem text_nan {r : Nat} (hr : r ≤ infR) : textR r ≠ ⟨#[110, 97, 110]⟩ := fun h => by
  by_cases hi : r = infR
  · rw [hi] at h; unfold Num.textR at h; rw [if_pos rfl] at h; revert h; decide
  · obtain ⟨c, l, h1, h2, h3⟩ := text_head hr hi
    rw [h] at h1
    have : c = 110 := by injection h1 with h1 _; exact h1.symm
    subst this
    simp at h3
theorem text_inf {r : Nat} (hr : r ≤ infR) (h : textR r = ⟨#[105, 110, 102]⟩) : r = infR := by
  by_cases hi : r = infR
  · exact hi
  · obtain ⟨c, l, h1, h2, h3⟩ := text_head hr hi
    rw [h] at h1
    have : c = 105 := by injection h1 with h1 _; exact h1.symm
    subst this
    simp at h3
/-- What a text that is a number's is taken apart to. -/
theorem text_parts {r : Nat} {s : ByteArray} (hr : r ≤ infR) (hi : r ≠ infR) (h : textR r = s) :
    (bF 112 s = false ∧ ∃ n, uintS (bA 112 s) = some n ∧ rv r = n * P0) ∨ (bF 112 s = true ∧ ∃ m E, uintS (bA 112 s) = some m ∧ 0 < m ∧ atoiO (bR 112 s) = some E ∧ Num.LdIs m E r) := by
  subst h
  have hlt : r < infR := by omega
  cases hw : wholeR r
  · right
    have hx0 : 0 < r := by
      rcases Nat.eq_zero_or_pos r with h | h
      · subst h; rw [Num.wholeR_zero] at hw; cases hw
      · exact h
    have e : textR r = decS (oddM r) ++ ⟨#[112]⟩ ++ expS ((oddE r : Int) - 1074) := by unfold Num.textR; rw [if_neg hi, hw]; rfl
    have hb : brk 112 (textR r).data.toList = (Lib.decDigits (oddM r), (expS ((oddE r : Int) - 1074)).data.toList, true) := by
      rw [e]
      have e2 : (decS (oddM r) ++ ⟨#[112]⟩ ++ expS ((oddE r : Int) - 1074)).data.toList = Lib.decDigits (oddM r) ++ 112 :: (expS ((oddE r : Int) - 1074)).data.toList := by simp [decS_list]
      rw [e2, brk_at 112 _ _ (no_p _)]
    have hA : bA 112 (textR r) = decS (oddM r) := by unfold bA; rw [hb]; rfl
    have hR : bR 112 (textR r) = expS ((oddE r : Int) - 1074) := by unfold bR; rw [hb]
    have hFF : bF 112 (textR r) = true := by unfold bF; rw [hb]
    obtain ⟨ho1, ho2⟩ := Num.odd_is hx0
    have hol := oddE_le hr
    refine ⟨hFF, oddM r, (oddE r : Int) - 1074, by rw [hA]; exact uint_dec _ (Num.oddM_lt r), by omega, by rw [hR]; exact atoi_exp _ (by omega), hlt, oddE r, 1074, by omega, ?_⟩
    obtain ⟨c, hc⟩ : ∃ c : Nat, c = 1074 := ⟨_, rfl⟩
    rw [← hc, ← Num.P0_is c hc, ho1]
    generalize 2 ^ oddE r = a
    ac_rfl
  · left
    have e : textR r = decS (tv r) := by unfold Num.textR; rw [if_neg hi, hw]; rfl
    have hb := Num.tv_of hw
    have hbk : brk 112 (textR r).data.toList = (Lib.decDigits (tv r), [], false) := by rw [e, decS_list]; exact Ver.brk_not 112 _ (no_p _)
    have hA : bA 112 (textR r) = decS (tv r) := by unfold bA; rw [hbk]; rfl
    exact ⟨by unfold bF; rw [hbk], tv r, by rw [hA]; exact uint_dec _ hb.2, hb.1⟩
theorem cut_sizes (s : ByteArray) (hs : s.size ≤ 1000000) : (bA 112 s).size ≤ 1000000 ∧ (bR 112 s).size ≤ 1000000 := by
  cases hb : bF 112 s
  · obtain ⟨h1, h2, _⟩ := cut_no 112 s hb
    rw [h1, h2]
    exact ⟨hs, by decide⟩
  · obtain ⟨h1, _⟩ := Ver.brk_yes 112 s.data.toList hb
    have hl := congrArg List.length h1
    rw [len_data, List.length_append, List.length_cons] at hl
    have e1 := len_data (bA 112 s)
    have e2 := len_data (bR 112 s)
    rw [bA_list] at e1
    rw [bR_list] at e2
    omega
def SizeOk (s : ByteArray) (x : Nat) (ok : Bool) : Prop := x < 2 ^ 64 ∧ (∀ r, r ≤ infR → textR r = s → ok = true ∧ x = r) ∧ (s = ⟨#[110, 97, 110]⟩ → ok = true ∧ nanB x = true)
def SizePost (s : ByteArray) (w : World) (e : Ending) (w' : World) : Prop := Below w.heap.size w w' ∧ ∃ x ok, e = .returned (.tuple #[.float .f64 x, .bool ok]) ∧ SizeOk s x ok
theorem ldexp_zero (e : Int) (w : World) : Calls Tryz.prog 90 #[.float .f64 0, .int .i64 e] w fun en w' => en = .returned (.float .f64 0) ∧ w' = w := by
  have ho := Num.ord_eq 0 0
  rw [Num.eq_zero Num.nz, show decide (rg 0 = 0) = true by decide] at ho
  go_enter Tryz.func90, Tryz.ntmps90
  go_wp2
  go_ret
  exact ⟨rfl, by trivial⟩
theorem Ldexp_zero (e : Int) (w : World) : Calls Tryz.prog 77 #[.float .f64 0, .int .i64 e] w fun en w' => en = .returned (.float .f64 0) ∧ w' = w := by
  have HL := Lib.hid (ldexp_zero e w)
  go_enter Tryz.func77, Tryz.ntmps77
  go_wp2_with fail
  refine HL.out.mono ?_
  rintro e w' ⟨rfl, hw⟩
  obtain rfl := hw.symm
  go_wp2
  go_ret
  exact ⟨rfl, by trivial⟩
theorem Ldexp_any (m x : Nat) (e : Int) (w : World) (h : Num.IsInt m x) (he0 : -9223372036854775808 ≤ e) (he1 : e ≤ 9223372036854775807) : Calls Tryz.prog 77 #[.float .f64 x, .int .i64 e] w (LdPost m e w) := by
  have HL := Lib.hid (ldexp_any m x e w h he0 he1)
  unfold LdPost at HL
  have HP := Lib.hid (fun (r : Nat) (w' : World) (hb : Below w.heap.size w w') (h1 : r < 2 ^ 64) (h2 : ∀ rr, Num.LdIs m e rr → r = rr) => show LdPost m e w (.returned (.float .f64 r)) w' from ⟨hb, r, rfl, h1, h2⟩)
  generalize LdPost m e w = post at *
  clear h
  go_enter Tryz.func77, Tryz.ntmps77
  go_wp2_with fail
  refine HL.out.mono ?_
  rintro e w' ⟨hb, r, rfl, h1, h2⟩
  have HQ := Lib.hid (HP.out r w' hb h1 h2)
  clear hb h1 h2 HP
  go_wp2
  exact HQ.out
theorem atoi_bound {s : ByteArray} {v : Int} (h : atoiO s = some v) : -9223372036854775808 ≤ v ∧ v ≤ 9223372036854775807 := by
  unfold atoiO at h
  split at h
  · rename_i u he
    cases h
    unfold Lib.atoiAll at he
    split at he
    · cases he
    · dsimp only at he
      split at he
      · cases he
      · cases he
      · split at he
        · cases he
        · split at he
          · cases he
          · rename_i h1 h2
            injection he with he
            subst he
            split <;> omega
  · cases h
theorem float_u64 (u : Nat) (x : Nat) (hx : x < infR) (h : rv x = u * P0) (w : World) : (convert 61 25 (.int .u64 (u : Int))).run Tryz.prog w = .ok (.float .f64 x) w := by
  rw [run_convert_int_float w 61 25 .u64 .f64 (u : Int) (by kernel_rfl) Tryz.underlying25, Num.int_float (u : Int) x hx (by rw [h, Int.natAbs_natCast]), decide_eq_false (by omega)]
  rfl
set_option maxRecDepth 100000 in
set_option maxHeartbeats 4000000 in
theorem size_any (s : ByteArray) (w : World) (hs : s.size ≤ 1000000) (he : ErrsW w) : Calls Tryz.prog 58 #[.string s] w (SizePost s w) := by
  have HP := Lib.hid (fun (x : Nat) (ok : Bool) (w' : World) (hb : Below w.heap.size w w') (h : SizeOk s x ok) => show SizePost s w (.returned (.tuple #[.float .f64 x, .bool ok])) w' from ⟨hb, x, ok, rfl, h⟩)
  generalize SizePost s w = post at *
  have h1 := str_eq_is s ⟨#[110, 97, 110]⟩
  have h2 := str_eq_is s ⟨#[105, 110, 102]⟩
  rw [Lib.toList_data (⟨#[110, 97, 110]⟩ : ByteArray)] at h1
  rw [Lib.toList_data (⟨#[105, 110, 102]⟩ : ByteArray)] at h2
  by_cases hn : s = ⟨#[110, 97, 110]⟩
  · rw [decide_eq_true hn] at h1
    have HQ := Lib.hid (HP.out 9221120237041090561 true w (Below.refl _ _) ⟨by decide, fun r hr h => absurd (h.trans hn) (text_nan hr), fun _ => ⟨rfl, by decide⟩⟩)
    have HNN := Lib.hid (mathNaN_any w)
    clear hn he HP
    go_enter Tryz.func58, Tryz.ntmps58
    go_wp2_with fail
    refine HNN.out.mono ?_
    rintro e w' ⟨rfl, hw⟩
    obtain rfl := hw.symm
    go_wp2
    exact HQ.out
  · rw [decide_eq_false hn] at h1
    by_cases hin : s = ⟨#[105, 110, 102]⟩
    · rw [decide_eq_true hin] at h2
      have HQ := Lib.hid (HP.out 9218868437227405312 true w (Below.refl _ _) ⟨by decide, fun r hr h => ⟨rfl, (text_inf hr (h.trans hin)).symm⟩, fun h => absurd h hn⟩)
      have HNN := Lib.hid (mathInf_any w)
      clear hn hin he HP
      go_enter Tryz.func58, Tryz.ntmps58
      go_wp2_with fail
      refine HNN.out.mono ?_
      rintro e w' ⟨rfl, hw⟩
      obtain rfl := hw.symm
      go_wp2
      exact HQ.out
    · rw [decide_eq_false hin] at h2
      have HTX := Lib.hid (fun (r : Nat) (hr : r ≤ infR) (h : textR r = s) => text_parts hr (fun hi => hin (by rw [← h, hi]; unfold Num.textR; rw [if_pos rfl])) h)
      have HNAN := Lib.hid hn
      have HCUT := Lib.hid (cut_any 112 s w (by unfold maxLen; omega))
      unfold CutPost at HCUT
      have hAs : (bA 112 s).size ≤ 1000000 ∧ (bR 112 s).size ≤ 1000000 := cut_sizes s hs
      have HPU := Lib.hid (fun (w1 : World) (h : Below w.heap.size w w1) => parseUint_any (bA 112 s) (by omega) w1 (he.below h))
      have HAT := Lib.hid (fun (w1 : World) (h : Below w.heap.size w w1) => atoi_any (bR 112 s) (by omega) w1 (he.below h))
      clear hn hin he hAs
      cases hu : uintS (bA 112 s) with
      | none =>
        rw [hu] at HPU
        unfold UintPub at HPU
        have HQ := Lib.hid (fun (w' : World) (hb : Below w.heap.size w w') => HP.out 0 false w' hb ⟨by decide, fun r hr h => (by
          rcases HTX.out r hr h with ⟨_, n, h3, _⟩ | ⟨_, m, E, h3, _⟩
          · rw [hu] at h3; cases h3
          · rw [hu] at h3; cases h3), fun h => absurd h HNAN.out⟩)
        clear HTX hu HP
        generalize bF 112 s = bf at *
        generalize bA 112 s = sa at *
        generalize bR 112 s = sr at *
        go_enter Tryz.func58, Tryz.ntmps58
        go_wp2_with fail
        refine HCUT.out.mono ?_
        rintro e w1 ⟨rfl, nq, hw⟩
        have HB1 := Lib.hid (show Below w.heap.size w w1 by rw [hw]; exact below_drewN (Below.refl _ _) _)
        clear hw
        go_wp2_with fail
        refine (HPU.out w1 HB1.out).mono ?_
        rintro e w2 ⟨⟨n, p, rfl⟩, hb2⟩
        have HB2 := Lib.hid (step_below HB1.out hb2)
        clear hb2
        go_wp2
        exact HQ.out w2 HB2.out
      | some u =>
        have hu53 := uint_lt hu
        rw [hu] at HPU
        unfold UintPub at HPU
        obtain ⟨x, hx1, hx2⟩ : ∃ x, x < infR ∧ rv x = u * P0 := by
          obtain ⟨x, h3, _, h4⟩ := Num.int_rung u (by omega)
          exact ⟨x, h3, h4⟩
        have hcv := fun w => float_u64 u x hx1 hx2 w
        have hx64 : x < 2 ^ 64 := by have := Num.infR_lt; omega
        cases hbf : bF 112 s
        · have HQ := Lib.hid (fun (w' : World) (hb : Below w.heap.size w w') => HP.out x true w' hb ⟨hx64, fun r hr h => ⟨rfl, (by
            rcases HTX.out r hr h with ⟨_, n, h3, h4⟩ | ⟨h3, _⟩
            · rw [hu] at h3; cases h3; exact Num.rv_inj.1 (hx2.trans h4.symm)
            · rw [hbf] at h3; cases h3)⟩, fun h => absurd h HNAN.out⟩)
          rw [hbf] at HCUT
          clear HTX hu HP hx1 hx2 hbf
          generalize bA 112 s = sa at *
          generalize bR 112 s = sr at *
          go_enter Tryz.func58, Tryz.ntmps58
          go_wp2_with fail
          refine HCUT.out.mono ?_
          rintro e w1 ⟨rfl, nq, hw⟩
          have HB1 := Lib.hid (show Below w.heap.size w w1 by rw [hw]; exact below_drewN (Below.refl _ _) _)
          clear hw
          go_wp2_with fail
          refine (HPU.out w1 HB1.out).mono ?_
          rintro e w2 ⟨rfl, hb2⟩
          have HB2 := Lib.hid (step_below HB1.out hb2)
          clear hb2
          go_wp2
          exact HQ.out w2 HB2.out
        · rw [hbf] at HCUT
          cases ha : atoiO (bR 112 s) with
          | none =>
            rw [ha] at HAT
            unfold AtoiPub at HAT
            have HQ := Lib.hid (fun (w' : World) (hb : Below w.heap.size w w') => HP.out 0 false w' hb ⟨by decide, fun r hr h => (by
              rcases HTX.out r hr h with ⟨h3, _⟩ | ⟨_, m, E, _, _, h3, _⟩
              · rw [hbf] at h3; cases h3
              · rw [ha] at h3; cases h3), fun h => absurd h HNAN.out⟩)
            clear HTX hu HP hx1 hx2 hbf ha
            generalize bA 112 s = sa at *
            generalize bR 112 s = sr at *
            go_enter Tryz.func58, Tryz.ntmps58
            go_wp2_with fail
            refine HCUT.out.mono ?_
            rintro e w1 ⟨rfl, nq, hw⟩
            have HB1 := Lib.hid (show Below w.heap.size w w1 by rw [hw]; exact below_drewN (Below.refl _ _) _)
            clear hw
            go_wp2_with fail
            refine (HPU.out w1 HB1.out).mono ?_
            rintro e w2 ⟨rfl, hb2⟩
            have HB2 := Lib.hid (step_below HB1.out hb2)
            clear hb2
            go_wp2_with fail
            refine (HAT.out w2 HB2.out).mono ?_
            rintro e w3 ⟨⟨n, p, rfl⟩, hb3⟩
            have HB3 := Lib.hid (step_below HB2.out hb3)
            clear hb3
            go_wp2
            exact HQ.out w3 HB3.out
          | some E =>
            have hEb := atoi_bound ha
            rw [ha] at HAT
            unfold AtoiPub at HAT
            by_cases hu0 : u = 0
            · have hx0 : x = 0 := Num.rv_inj.1 (by rw [hx2, hu0, Nat.zero_mul, Num.rv_zero])
              have HQ := Lib.hid (fun (w' : World) (hb : Below w.heap.size w w') => HP.out 0 true w' hb ⟨by decide, fun r hr h => (by
                rcases HTX.out r hr h with ⟨h3, _⟩ | ⟨_, m, E', h3, h4, _⟩
                · rw [hbf] at h3; cases h3
                · rw [hu] at h3; cases h3; omega), fun h => absurd h HNAN.out⟩)
              have HLD := Lib.hid (fun w1 => Ldexp_zero E w1)
              rw [hx0] at hcv
              clear HTX hu HP hx1 hx2 hbf ha hx0 hu0
              generalize bA 112 s = sa at *
              generalize bR 112 s = sr at *
              go_enter Tryz.func58, Tryz.ntmps58
              go_wp2_with fail
              refine HCUT.out.mono ?_
              rintro e w1 ⟨rfl, nq, hw⟩
              have HB1 := Lib.hid (show Below w.heap.size w w1 by rw [hw]; exact below_drewN (Below.refl _ _) _)
              clear hw
              go_wp2_with fail
              refine (HPU.out w1 HB1.out).mono ?_
              rintro e w2 ⟨rfl, hb2⟩
              have HB2 := Lib.hid (step_below HB1.out hb2)
              clear hb2
              go_wp2_with fail
              refine (HAT.out w2 HB2.out).mono ?_
              rintro e w3 ⟨rfl, hb3⟩
              have HB3 := Lib.hid (step_below HB2.out hb3)
              clear hb3
              go_wp2_with fail
              refine (HLD.out w3).mono ?_
              rintro e w4 ⟨rfl, hw4⟩
              obtain rfl := hw4.symm
              go_wp2
              exact HQ.out w3 HB3.out
            · obtain ⟨x2, hI⟩ := Num.isInt_of (by omega : 0 < u) hu53
              obtain rfl : x2 = x := Num.rv_inj.1 (hI.eq.trans hx2.symm)
              have HQ := Lib.hid (fun (r : Nat) (hr1 : r < 2 ^ 64) (hr2 : ∀ rr, Num.LdIs u E rr → r = rr) (w' : World) (hb : Below w.heap.size w w') => HP.out r true w' hb ⟨hr1, fun rr hrr h => ⟨rfl, (by
                rcases HTX.out rr hrr h with ⟨h3, _⟩ | ⟨_, m, E', h3, h4, h5, h6⟩
                · rw [hbf] at h3; cases h3
                · rw [hu] at h3; cases h3
                  rw [ha] at h5; cases h5
                  exact hr2 rr h6)⟩, fun h => absurd h HNAN.out⟩)
              have HLD := Lib.hid (fun w1 => Ldexp_any u x2 E w1 hI hEb.1 hEb.2)
              unfold LdPost at HLD
              clear HTX hu HP hx1 hx2 hbf ha hu0 hI
              generalize bA 112 s = sa at *
              generalize bR 112 s = sr at *
              go_enter Tryz.func58, Tryz.ntmps58
              go_wp2_with fail
              refine HCUT.out.mono ?_
              rintro e w1 ⟨rfl, nq, hw⟩
              have HB1 := Lib.hid (show Below w.heap.size w w1 by rw [hw]; exact below_drewN (Below.refl _ _) _)
              clear hw
              go_wp2_with fail
              refine (HPU.out w1 HB1.out).mono ?_
              rintro e w2 ⟨rfl, hb2⟩
              have HB2 := Lib.hid (step_below HB1.out hb2)
              clear hb2
              go_wp2_with fail
              refine (HAT.out w2 HB2.out).mono ?_
              rintro e w3 ⟨rfl, hb3⟩
              have HB3 := Lib.hid (step_below HB2.out hb3)
              clear hb3
              go_wp2_with fail
              refine (HLD.out w3).mono ?_
              rintro e w4 ⟨hb4, r, rfl, hr1, hr2⟩
              have HQ2 := Lib.hid (HQ.out r hr1 hr2 w4 (step_below HB3.out hb4))
              clear hb4 hr1 hr2
              go_wp2
              exact HQ2.out
end Go.Proofs.YtbmmoclaijoofaaGreatDoor
