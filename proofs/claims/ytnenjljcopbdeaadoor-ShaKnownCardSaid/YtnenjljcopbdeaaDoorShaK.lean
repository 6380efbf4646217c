/- Arrays of numbers held against each other; texts and digests, there and back; the walk of the law ShaBack. -/
import Derived.Test.YtnenjljcopbdeaaDoorShaJ
import Derived.ChangeKeysEq
namespace Go.Proofs.YtnenjljcopbdeaaDoor
open Go.RowKit Go.BigFrame

def eqRun (P : Program) (d : Nat) (e : TypeId) (xs ys : Array Value) : List Nat → Sem Bool
  | [] => pure true
  | i :: l => do
    let a ← part e xs i
    let b ← part e ys i
    let r ← Op.equalIn d e a b
    if (!r) = true then pure false else eqRun P d e xs ys l

theorem run_equalIn_array {P : Program} (w : World) (d n : Nat) (T e : TypeId) (xs ys : Array Value) (hT : P.underlying T = some (.array n e)) {i : TypeInfo} (hi : P.info? e = some i) (h1 : P.cellsOf e = 1) :
    (Op.equalIn (d + 1) T (.agg xs) (.agg ys)).run P w = (eqRun P d e xs ys (List.range' 0 n)).run P w := by
  simp only [Op.equalIn, Sem.run_bind, run_underlying hT, Result.andThen_ok, run_sizeOf w hi, h1, Nat.mul_one]
  rw [Std.Legacy.Range.forIn_eq_forIn_range']
  simp only [Std.Legacy.Range.size, Nat.sub_zero, Nat.add_sub_cancel, Nat.div_one]
  clear hT
  generalize List.range' 0 n = l
  induction l generalizing w with
  | nil => simp [eqRun]
  | cons j l ih =>
    simp only [List.forIn_cons, eqRun, Sem.run_bind, Sem.run_ite]
    generalize (part e xs j).run P w = r1
    cases r1 with
    | ok a w1 =>
      simp only [Result.andThen_ok]
      generalize (part e ys j).run P w1 = r2
      cases r2 with
      | ok b w2 =>
        simp only [Result.andThen_ok]
        generalize (Op.equalIn d e a b).run P w2 = r3
        cases r3 with
        | ok r w3 =>
          cases r
          · simp only [Result.andThen_ok, Bool.not_false, if_true, Sem.run_pure]
          · simp only [Result.andThen_ok, Bool.not_true, Bool.false_eq_true, if_false, Sem.run_pure]
            exact ih w3
        | halt x w3 => simp [Result.andThen]
      | halt x w2 => simp [Result.andThen]
    | halt x w1 => simp [Result.andThen]

theorem run_eqRun_int {P : Program} (w : World) (d : Nat) (e : TypeId) (k q : IntKind) (he : P.underlying e = some (.int q)) (f g : Nat → Int) (xs ys : Array Value) :
    ∀ l : List Nat, (∀ i ∈ l, xs[i]? = some (.int k (f i)) ∧ ys[i]? = some (.int k (g i))) → (eqRun P (d + 1) e xs ys l).run P w = .ok (l.all fun i => f i == g i) w
  | [], _ => by simp [eqRun]
  | i :: l, h => by
    have hp : P.plainKey e = true := by simp [Program.plainKey, he]
    obtain ⟨hx, hy⟩ := h i (by simp)
    simp only [eqRun, Sem.run_bind, run_part_plain w hp hx, run_part_plain w hp hy, Result.andThen_ok, run_equalIn_int w d e k q (f i) (g i) he, Sem.run_ite]
    rw [run_eqRun_int w d e k q he f g xs ys l fun j hj => h j (by simp [hj])]
    cases hfg : f i == g i <;> simp [hfg]

/-- Arrays of n numbers are the same just if all are. -/
theorem run_equal_ints {P : Program} (w : World) (d n : Nat) (T e : TypeId) (k q : IntKind) (f g : Nat → Int) (xs ys : Array Value) (hT : P.underlying T = some (.array n e)) (he : P.underlying e = some (.int q)) (h1 : P.cellsOf e = 1)
    (hx : ∀ i, i < n → xs[i]? = some (.int k (f i)) ∧ ys[i]? = some (.int k (g i))) :
    (Op.equalIn (d + 2) T (.agg xs) (.agg ys)).run P w = .ok ((List.range n).all fun i => f i == g i) w := by
  obtain ⟨i, hi⟩ := info_of_underlying he
  rw [run_equalIn_array w (d + 1) n T e xs ys hT hi h1, run_eqRun_int w d e k q he f g xs ys _ (fun i hi => hx i (by simpa [List.mem_range'] using hi)), List.range_eq_range']

def sameB (n : Nat) (f d : Nat → Nat) : Bool := (List.range n).all fun i => f i == d i
theorem run_equal_dig (w : World) (f g : Nat → Nat) : (Op.equalIn 10000 33 (.agg (digA f 32)) (.agg (digA g 32))).run Tryd.prog w = .ok (sameB 32 f g) w := by
  unfold sameB
  rw [run_equal_ints w 9998 32 33 5 .u8 .u8 (fun i => (f i : Int)) (fun i => (g i : Int)) _ _ Tryd.underlying33 Tryd.underlying5 cellsU8 fun i hi => ⟨digA_get _ _ _ hi, digA_get _ _ _ hi⟩]
  congr 2
  funext i
  rw [Bool.eq_iff_iff]
  simp
  omega
theorem sameB_of (n : Nat) (f g : Nat → Nat) (h : ∀ i, i < n → f i = g i) : sameB n f g = true := by
  unfold sameB
  rw [List.all_eq_true]
  intro i hi
  simp [h i (by simpa using hi)]

theorem wpList_load_row_g {P : Program} {ops : Array Oper} {rest : List Oper} {o : Oper} {a : Act} {w : World} {Q : Exit → Act → World → Prop} (hw : Region.wanted o (yielded ops a.tmps) = true) (ty : TypeId) (x : Operand) (ho : o.op = .load ty x)
    (g : Nat) (hx : a.eval x = .pointer (some ⟨g, 0, none⟩)) (t : TypeId) (cs : Array Value) (fr : Nat × Nat) (d : TypeDesc) (hg : w.heap[g]? = some (.cells cs t fr))
    (hu : P.underlying ty = some d) (hd : (match d with | .struct _ | .array _ _ => true | _ => false) = true) (hi : (P.info? ty).map (·.size) = some cs.size)
    (h : wpList P ops Q rest (a.put o.dst (.agg cs)) w) : wpList P ops Q (o :: rest) a w :=
  BigFrame.wpList_want hw fun _ hK => wp_load_row ty x ho g hx t cs fr d hg hu hd hi (hK _ _ h)

/-! Texts and digests. -/
theorem chr_hex (d : Nat → Nat) (i : Nat) (hi : i < 64) : chr (hexS d) i = UInt8.ofNat (hexB d i) := by
  unfold chr hexS strOf txt
  simp [List.getD, hi]
theorem chr_hex_nat (d : Nat → Nat) (hd : ∀ i, d i < 256) (i : Nat) (hi : i < 64) : (chr (hexS d) i).toNat = hexB d i := by
  rw [chr_hex d i hi, UInt8.toNat_ofNat']
  exact Nat.mod_eq_of_lt (hexB_lt d hd i)
theorem hexOk_hexD (x : Nat) (h : x < 16) : hexOk (hexD x) = true ∧ hexV (hexD x) = x := by
  have e : ∀ x : Fin 16, hexOk (hexD x.val) = true ∧ hexV (hexD x.val) = x.val := by decide +kernel
  exact e ⟨x, h⟩
theorem hexD_hexV (c : Nat) (hc : c < 256) (h : hexOk c = true) : hexD (hexV c) = c := by
  have e : ∀ c : Fin 256, hexOk c.val = true → hexD (hexV c.val) = c.val := by decide +kernel
  exact e ⟨c, hc⟩ h
theorem hexS_size (d : Nat → Nat) : (hexS d).size = 64 := by rw [hexS, strOf_size, txt_len]
theorem okR_hexS (d : Nat → Nat) (hd : ∀ i, d i < 256) : okR (hexS d) = true := by
  refine okR_yes _ (hexS_size d) ?_
  unfold allOk
  rw [List.all_eq_true]
  intro i hi
  have hi' : i < 64 := by simpa using hi
  rw [chr_hex_nat d hd i hi']
  have := hd (i / 2)
  unfold hexB
  split
  · exact (hexOk_hexD _ (by omega)).1
  · exact (hexOk_hexD _ (by omega)).1
theorem rdD_hexS (d : Nat → Nat) (hd : ∀ i, d i < 256) (i : Nat) (hi : i < 32) : rdD (hexS d) i = d i := by
  rw [rdD_yes _ (okR_hexS d hd), rdB, chr_hex_nat d hd _ (by omega), chr_hex_nat d hd _ (by omega)]
  have := hd i
  unfold hexB
  rw [if_pos (by omega), if_neg (by omega), show 2 * i / 2 = i from by omega, show (2 * i + 1) / 2 = i from by omega, (hexOk_hexD _ (by omega)).2, (hexOk_hexD _ (by omega)).2]
  omega
theorem str_ext {a b : ByteArray} (h : a.data.toList = b.data.toList) : a = b := by
  cases a; cases b; simp at h; rw [h]
theorem hexS_rdD (s : ByteArray) (h : okR s = true) : hexS (rdD s) = s := by
  have h64 : s.size = 64 := by simp [okR] at h; exact h.1
  have hall : allOk s 64 = true := by simp [okR] at h; exact h.2
  have hok : ∀ i, i < 64 → hexOk (chr s i).toNat = true := fun i hi => by
    unfold allOk at hall
    rw [List.all_eq_true] at hall
    exact hall i (by simpa using hi)
  rw [rdD_yes s h]
  apply str_ext
  apply List.ext_getElem
  · have : (hexS (rdB s)).data.toList.length = 64 := hexS_size (rdB s)
    rw [this]
    exact h64.symm
  · intro i h1 h2
    have hi : i < 64 := by rw [← h64]; exact h2
    have e1 : (hexS (rdB s)).data.toList[i] = chr (hexS (rdB s)) i := by
      unfold chr
      rw [List.getD_eq_getElem?_getD, List.getElem?_eq_getElem h1]
      rfl
    have e2 : s.data.toList[i] = chr s i := by
      unfold chr
      rw [List.getD_eq_getElem?_getD, List.getElem?_eq_getElem h2]
      rfl
    refine Eq.trans e1 (Eq.trans ?_ e2.symm)
    apply UInt8.toNat_inj.1
    rw [chr_hex_nat _ (rdB_lt s) i hi]
    have a1 := hexV_lt (chr s (2 * (i / 2))).toNat
    have a2 := hexV_lt (chr s (2 * (i / 2) + 1)).toNat
    unfold hexB rdB
    split
    · rw [show (hexV (chr s (2 * (i / 2))).toNat * 16 + hexV (chr s (2 * (i / 2) + 1)).toNat) / 16 = hexV (chr s (2 * (i / 2))).toNat from by omega, show 2 * (i / 2) = i from by omega]
      exact hexD_hexV _ (chr s i).toNat_lt (hok i hi)
    · rw [show (hexV (chr s (2 * (i / 2))).toNat * 16 + hexV (chr s (2 * (i / 2) + 1)).toNat) % 16 = hexV (chr s (2 * (i / 2) + 1)).toNat from by omega, show 2 * (i / 2) + 1 = i from by omega]
      exact hexD_hexV _ (chr s i).toNat_lt (hok i hi)
end Go.Proofs.YtnenjljcopbdeaaDoor
