/- The contract of Read. -/
import Derived.Test.YtbniilajffjfcaaGreatDoorDmS3
import Derived.ChangeKeysEq
import Derived.ProofKit
import Derived.LaidMore
import Derived.OpenShut
import Derived.Stop.Joined
set_option linter.unusedVariables false
set_option linter.unusedSimpArgs false
namespace Go.Proofs.YtbniilajffjfcaaGreatDoor.Sha
open Go.RowKit

def hexV (c : Nat) : Nat := if 48 ≤ c ∧ c ≤ 57 then c - 48 else if 97 ≤ c ∧ c ≤ 102 then c - 87 else 0
def hexOk (c : Nat) : Bool := decide (48 ≤ c ∧ c ≤ 57) || decide (97 ≤ c ∧ c ≤ 102)
theorem hexV_lt (c : Nat) : hexV c < 16 := by unfold hexV; split; omega; split <;> omega
/-- The bytes of a text. -/
def chr (s : ByteArray) (i : Nat) : UInt8 := s.data.toList.getD i 0
theorem chr_at (s : ByteArray) (k : Nat) (h : k < s.size) : s[k] = chr s k := by
  simp [chr, List.getD, h]
  rfl
def rdB (s : ByteArray) (i : Nat) : Nat := hexV (chr s (2 * i)).toNat * 16 + hexV (chr s (2 * i + 1)).toNat
theorem rdB_lt (s : ByteArray) (i : Nat) : rdB s i < 256 := by have := hexV_lt (chr s (2 * i)).toNat; have := hexV_lt (chr s (2 * i + 1)).toNat; unfold rdB; omega
def allOk (s : ByteArray) (n : Nat) : Bool := (List.range n).all fun i => hexOk (chr s i).toNat
def okR (s : ByteArray) : Bool := decide (s.size = 64) && allOk s 64
def rdD (s : ByteArray) (i : Nat) : Nat := if okR s then rdB s i else 0
theorem allOk_two (s : ByteArray) (k : Nat) (h : allOk s (2 * k) = true) (h1 : hexOk (chr s (2 * k)).toNat = true) (h2 : hexOk (chr s (2 * k + 1)).toNat = true) : allOk s (2 * (k + 1)) = true := by
  unfold allOk at *
  rw [show 2 * (k + 1) = 2 * k + 1 + 1 from by omega, List.range_succ, List.range_succ]
  simp only [List.all_append, List.all_cons, List.all_nil, Bool.and_true]
  rw [h, h1, h2]
  rfl
theorem okR_len (s : ByteArray) (h : s.size ≠ 64) : okR s = false := by simp [okR, h]
theorem okR_at (s : ByteArray) (i : Nat) (hi : i < 64) (h : hexOk (chr s i).toNat = false) : okR s = false := by
  have : allOk s 64 = false := by
    unfold allOk
    rw [List.all_eq_false]
    exact ⟨i, by simpa using hi, by simp [h]⟩
  simp [okR, this]
theorem okR_yes (s : ByteArray) (h : s.size = 64) (ha : allOk s 64 = true) : okR s = true := by simp [okR, h, ha]
theorem rdD_no (s : ByteArray) (h : okR s = false) : digA (rdD s) 32 = digA (fun _ => 0) 32 := digA_congr _ _ _ fun i _ => by simp [rdD, h]
theorem rdD_yes (s : ByteArray) (h : okR s = true) : rdD s = rdB s := by funext i; simp [rdD, h]
def rdTo (s : ByteArray) (k i : Nat) : Nat := if i < k then rdB s i else 0
theorem rdTo_zero (s : ByteArray) : digA (fun _ => 0) 32 = digA (rdTo s 0) 32 := digA_congr _ _ _ fun i _ => by simp [rdTo]
theorem rdTo_all (s : ByteArray) : digA (rdTo s 32) 32 = digA (rdB s) 32 := digA_congr _ _ _ fun i hi => by simp [rdTo, hi]
theorem rdTo_set (s : ByteArray) (k : Nat) : (digA (rdTo s k) 32).setIfInBounds k (.int .u8 (rdB s k : Int)) = digA (rdTo s (k + 1)) 32 := by
  have e : rdB s k = rdTo s (k + 1) k := by simp [rdTo]
  rw [e]
  exact digA_set _ _ _ _ fun i _ hne => by unfold rdTo; split <;> split <;> first | rfl | omega
theorem or_hex (x y : Nat) (hx : x < 16) (hy : y < 16) : bits BinOp.or IntKind.u8 ((x : Int) * 16) (y : Int) = ((x * 16 + y : Nat) : Int) := by
  have e : ∀ x y : Fin 16, bits BinOp.or IntKind.u8 ((x.val : Int) * 16) (y.val : Int) = ((x.val * 16 + y.val : Nat) : Int) := by decide +kernel
  exact e ⟨x, hx⟩ ⟨y, hy⟩

theorem info32z : (Tryz.prog.info? 24).map (·.size) = some (digA (fun _ => 0) 32).size := info32

end Go.Proofs.YtbniilajffjfcaaGreatDoor.Sha

/- Arrays of numbers held against each other; texts and digests, there and back; the walk of the law ShaBack. -/
namespace Go.Proofs.YtbniilajffjfcaaGreatDoor.Sha
open Go.RowKit Go.BigFrame

def eqRun (P : Program) (d : Nat) (e : TypeId) (xs ys : Array Value) : List Nat → Sem Bool
  | [] => pure true
  | i :: l => do
    let a ← part e xs i
    let b ← part e ys i
    let r ← Op.equalIn d e a b
    if (!r) = true then pure false else eqRun P d e xs ys l

theorem run_equalIn_array {P : Program} (w : World) (d n : Nat) (T e : TypeId) (xs ys : Array Value) (hT : P.underlying T = some (.array n e)) {i : TypeInfo} (hi : P.info? e = some i) (h1 : P.cellsOf e = 1) :
    (Op.equalIn (d + 1) T (.agg xs) (.agg ys)).run P w = (eqRun P d e xs ys (List.range' 0 n)).run P w := by
  simp only [Op.equalIn, Sem.run_bind, run_underlying hT, Result.andThen_ok, run_sizeOf w hi, h1, Nat.mul_one]
  rw [Std.Legacy.Range.forIn_eq_forIn_range']
  simp only [Std.Legacy.Range.size, Nat.sub_zero, Nat.add_sub_cancel, Nat.div_one]
  clear hT
  generalize List.range' 0 n = l
  induction l generalizing w with
  | nil => simp [eqRun]
  | cons j l ih =>
    simp only [List.forIn_cons, eqRun, Sem.run_bind, Sem.run_ite]
    generalize (part e xs j).run P w = r1
    cases r1 with
    | ok a w1 =>
      simp only [Result.andThen_ok]
      generalize (part e ys j).run P w1 = r2
      cases r2 with
      | ok b w2 =>
        simp only [Result.andThen_ok]
        generalize (Op.equalIn d e a b).run P w2 = r3
        cases r3 with
        | ok r w3 =>
          cases r
          · simp only [Result.andThen_ok, Bool.not_false, if_true, Sem.run_pure]
          · simp only [Result.andThen_ok, Bool.not_true, Bool.false_eq_true, if_false, Sem.run_pure]
            exact ih w3
        | halt x w3 => simp [Result.andThen]
      | halt x w2 => simp [Result.andThen]
    | halt x w1 => simp [Result.andThen]

theorem run_eqRun_int {P : Program} (w : World) (d : Nat) (e : TypeId) (k q : IntKind) (he : P.underlying e = some (.int q)) (f g : Nat → Int) (xs ys : Array Value) :
    ∀ l : List Nat, (∀ i ∈ l, xs[i]? = some (.int k (f i)) ∧ ys[i]? = some (.int k (g i))) → (eqRun P (d + 1) e xs ys l).run P w = .ok (l.all fun i => f i == g i) w
  | [], _ => by simp [eqRun]
  | i :: l, h => by
    have hp : P.plainKey e = true := by simp [Program.plainKey, he]
    obtain ⟨hx, hy⟩ := h i (by simp)
    simp only [eqRun, Sem.run_bind, run_part_plain w hp hx, run_part_plain w hp hy, Result.andThen_ok, run_equalIn_int w d e k q (f i) (g i) he, Sem.run_ite]
    rw [run_eqRun_int w d e k q he f g xs ys l fun j hj => h j (by simp [hj])]
    cases hfg : f i == g i <;> simp [hfg]

/-- Arrays of n numbers are the same just if all are. -/
theorem run_equal_ints {P : Program} (w : World) (d n : Nat) (T e : TypeId) (k q : IntKind) (f g : Nat → Int) (xs ys : Array Value) (hT : P.underlying T = some (.array n e)) (he : P.underlying e = some (.int q)) (h1 : P.cellsOf e = 1)
    (hx : ∀ i, i < n → xs[i]? = some (.int k (f i)) ∧ ys[i]? = some (.int k (g i))) :
    (Op.equalIn (d + 2) T (.agg xs) (.agg ys)).run P w = .ok ((List.range n).all fun i => f i == g i) w := by
  obtain ⟨i, hi⟩ := info_of_underlying he
  rw [run_equalIn_array w (d + 1) n T e xs ys hT hi h1, run_eqRun_int w d e k q he f g xs ys _ (fun i hi => hx i (by simpa [List.mem_range'] using hi)), List.range_eq_range']

def sameB (n : Nat) (f d : Nat → Nat) : Bool := (List.range n).all fun i => f i == d i
theorem run_equal_dig (w : World) (f g : Nat → Nat) : (Op.equalIn 10000 24 (.agg (digA f 32)) (.agg (digA g 32))).run Tryz.prog w = .ok (sameB 32 f g) w := by
  unfold sameB
  rw [run_equal_ints w 9998 32 24 5 .u8 .u8 (fun i => (f i : Int)) (fun i => (g i : Int)) _ _ Tryz.underlying24 Tryz.underlying5 cellsU8 fun i hi => ⟨digA_get _ _ _ hi, digA_get _ _ _ hi⟩]
  congr 2
  funext i
  rw [Bool.eq_iff_iff]
  simp
  omega
theorem sameB_of (n : Nat) (f g : Nat → Nat) (h : ∀ i, i < n → f i = g i) : sameB n f g = true := by
  unfold sameB
  rw [List.all_eq_true]
  intro i hi
  simp [h i (by simpa using hi)]

theorem wpList_load_row_g {P : Program} {ops : Array Oper} {rest : List Oper} {o : Oper} {a : Act} {w : World} {Q : Exit → Act → World → Prop} (hw : Region.wanted o (yielded ops a.tmps) = true) (ty : TypeId) (x : Operand) (ho : o.op = .load ty x)
    (g : Nat) (hx : a.eval x = .pointer (some ⟨g, 0, none⟩)) (t : TypeId) (cs : Array Value) (fr : Nat × Nat) (d : TypeDesc) (hg : w.heap[g]? = some (.cells cs t fr))
    (hu : P.underlying ty = some d) (hd : (match d with | .struct _ | .array _ _ => true | _ => false) = true) (hi : (P.info? ty).map (·.size) = some cs.size)
    (h : wpList P ops Q rest (a.put o.dst (.agg cs)) w) : wpList P ops Q (o :: rest) a w :=
  BigFrame.wpList_want hw fun _ hK => wp_load_row ty x ho g hx t cs fr d hg hu hd hi (hK _ _ h)

/-! Texts and digests. -/
theorem chr_hex (d : Nat → Nat) (i : Nat) (hi : i < 64) : chr (hexS d) i = UInt8.ofNat (hexB d i) := by
  unfold chr hexS strOf txt
  simp [List.getD, hi]
theorem chr_hex_nat (d : Nat → Nat) (hd : ∀ i, d i < 256) (i : Nat) (hi : i < 64) : (chr (hexS d) i).toNat = hexB d i := by
  rw [chr_hex d i hi, UInt8.toNat_ofNat']
  exact Nat.mod_eq_of_lt (hexB_lt d hd i)
theorem hexOk_hexD (x : Nat) (h : x < 16) : hexOk (hexD x) = true ∧ hexV (hexD x) = x := by
  have e : ∀ x : Fin 16, hexOk (hexD x.val) = true ∧ hexV (hexD x.val) = x.val := by decide +kernel
  exact e ⟨x, h⟩
theorem hexD_hexV (c : Nat) (hc : c < 256) (h : hexOk c = true) : hexD (hexV c) = c := by
  have e : ∀ c : Fin 256, hexOk c.val = true → hexD (hexV c.val) = c.val := by decide +kernel
  exact e ⟨c, hc⟩ h
theorem hexS_size (d : Nat → Nat) : (hexS d).size = 64 := by rw [hexS, strOf_size, txt_len]
theorem okR_hexS (d : Nat → Nat) (hd : ∀ i, d i < 256) : okR (hexS d) = true := by
  refine okR_yes _ (hexS_size d) ?_
  unfold allOk
  rw [List.all_eq_true]
  intro i hi
  have hi' : i < 64 := by simpa using hi
  rw [chr_hex_nat d hd i hi']
  have := hd (i / 2)
  unfold hexB
  split
  · exact (hexOk_hexD _ (by omega)).1
  · exact (hexOk_hexD _ (by omega)).1
theorem rdD_hexS (d : Nat → Nat) (hd : ∀ i, d i < 256) (i : Nat) (hi : i < 32) : rdD (hexS d) i = d i := by
  rw [rdD_yes _ (okR_hexS d hd), rdB, chr_hex_nat d hd _ (by omega), chr_hex_nat d hd _ (by omega)]
  have := hd i
  unfold hexB
  rw [if_pos (by omega), if_neg (by omega), show 2 * i / 2 = i from by omega, show (2 * i + 1) / 2 = i from by omega, (hexOk_hexD _ (by omega)).2, (hexOk_hexD _ (by omega)).2]
  omega
theorem str_ext {a b : ByteArray} (h : a.data.toList = b.data.toList) : a = b := by
  cases a; cases b; simp at h; rw [h]
theorem hexS_rdD (s : ByteArray) (h : okR s = true) : hexS (rdD s) = s := by
  have h64 : s.size = 64 := by simp [okR] at h; exact h.1
  have hall : allOk s 64 = true := by simp [okR] at h; exact h.2
  have hok : ∀ i, i < 64 → hexOk (chr s i).toNat = true := fun i hi => by
    unfold allOk at hall
    rw [List.all_eq_true] at hall
    exact hall i (by simpa using hi)
  rw [rdD_yes s h]
  apply str_ext
  apply List.ext_getElem
  · have : (hexS (rdB s)).data.toList.length = 64 := hexS_size (rdB s)
    rw [this]
    exact h64.symm
  · intro i h1 h2
    have hi : i < 64 := by rw [← h64]; exact h2
    have e1 : (hexS (rdB s)).data.toList[i] = chr (hexS (rdB s)) i := by
      unfold chr
      rw [List.getD_eq_getElem?_getD, List.getElem?_eq_getElem h1]
      rfl
    have e2 : s.data.toList[i] = chr s i := by
      unfold chr
      rw [List.getD_eq_getElem?_getD, List.getElem?_eq_getElem h2]
      rfl
    refine Eq.trans e1 (Eq.trans ?_ e2.symm)
    apply UInt8.toNat_inj.1
    rw [chr_hex_nat _ (rdB_lt s) i hi]
    have a1 := hexV_lt (chr s (2 * (i / 2))).toNat
    have a2 := hexV_lt (chr s (2 * (i / 2) + 1)).toNat
    unfold hexB rdB
    split
    · rw [show (hexV (chr s (2 * (i / 2))).toNat * 16 + hexV (chr s (2 * (i / 2) + 1)).toNat) / 16 = hexV (chr s (2 * (i / 2))).toNat from by omega, show 2 * (i / 2) = i from by omega]
      exact hexD_hexV _ (chr s i).toNat_lt (hok i hi)
    · rw [show (hexV (chr s (2 * (i / 2))).toNat * 16 + hexV (chr s (2 * (i / 2) + 1)).toNat) % 16 = hexV (chr s (2 * (i / 2) + 1)).toNat from by omega, show 2 * (i / 2) + 1 = i from by omega]
      exact hexD_hexV _ (chr s i).toNat_lt (hok i hi)
end Go.Proofs.YtbniilajffjfcaaGreatDoor.Sha

/- The walk of the law ShaBack. -/
namespace Go.Proofs.YtbniilajffjfcaaGreatDoor.Sha
open Go.RowKit Go.BigFrame

theorem row_new (w : World) (o : Obj) : ∃ w1, w1 = w.alloc o ∧ w1.heap[w.heap.size]? = some o ∧ Below w.heap.size w w1 ∧ w1.heap.size = w.heap.size + 1 :=
  ⟨_, rfl, heap_alloc_new w _, (Below.refl _ _).alloc (Nat.le_refl _) _, by simp⟩
theorem rdD_lt (s : ByteArray) (i : Nat) : rdD s i < 256 := by unfold rdD; split; exact rdB_lt s i; decide

end Go.Proofs.YtbniilajffjfcaaGreatDoor.Sha

/- The package's tables out of what the row says of them. -/
namespace Go.Proofs.YtbniilajffjfcaaGreatDoor.Sha
open Go.ChangeShapes Go.WideShapes Go.ChangeAt Go.WideMaps Go.WideElems Go.RowKit

def laidL : List (String × DataW Unit) := [("tithebarn/sha.numbers", Rows.laid_tithebarn_sha_numbers), ("tithebarn/sha.first", Rows.laid_tithebarn_sha_first)]
theorem gNums : Tryz.prog.globalNamed "tithebarn/sha.numbers" = some 1 := by kernel_rfl
theorem gFirst : Tryz.prog.globalNamed "tithebarn/sha.first" = some 0 := by kernel_rfl
theorem tNums : (Tryz.prog.globals[1]?).map (·.type) = some 140 := by kernel_rfl
theorem tFirst : (Tryz.prog.globals[0]?).map (·.type) = some 98 := by kernel_rfl
def litsOf (l : List Nat) : List (DataW Unit) := l.map fun (k : Nat) => .lit (.int .u32 (k : Int))
theorem nums_data : (Rows.laid_tithebarn_sha_numbers : DataW Unit) = .agg (litsOf kNat) := rfl
theorem first_data : (Rows.laid_tithebarn_sha_first : DataW Unit) = .agg (litsOf hNat) := rfl

theorem all_lt (l : List Nat) (b : Nat) (h : l.all (fun x => decide (x < b)) = true) (hb : 0 < b) (t : Nat) : l.getD t 0 < b := by
  rw [List.getD_eq_getElem?_getD]
  cases h' : l[t]? with
  | none => simpa using hb
  | some v =>
    obtain ⟨ht, rfl⟩ := List.getElem?_eq_some_iff.1 h'
    rw [List.all_eq_true] at h
    simpa using h _ (List.getElem_mem ht)
theorem kNat_lt (t : Nat) : kNat.getD t 0 < 2 ^ 32 := all_lt _ _ (by decide +kernel) (by decide) t
theorem hNat_lt (t : Nat) : hNat.getD t 0 < 2 ^ 32 := all_lt _ _ (by decide +kernel) (by decide) t
theorem tab_cells {W : World} {g : Nat} {T : TypeId} {n : Nat} {l : List Nat} {cs : List Value} {p : List MemPlace} {held : Bool} {sp : Nat → Bool} {m : Nat}
    (hT : Tryz.prog.underlying T = some (.array n 97)) (hv : ∀ i, W.cell? ⟨g, i, none⟩ = cs[i]?)
    (hd : DataW.trod (fun _ => ()) Tryz.prog W 0 sp held m T cs = some (.agg (litsOf l), p)) : ∀ i, i < n → W.cell? ⟨g, i, none⟩ = some (.int .u32 (l.getD i 0 : Int)) := by
  intro i hi
  obtain ⟨xs, m1, _, hx1, hlen, hn3, hel⟩ := DataW.trod_array hT hd
  have h0 := hel i hi
  rw [cellsU32, Nat.mul_one, List.getElem?_eq_getElem (by omega)] at h0
  obtain ⟨k, e1, e2, _⟩ := DataW.trod_int Tryz.underlying97 h0
  have hx : litsOf l = xs.map (·.1) := by
    have := congrArg Prod.fst hx1
    simpa using this
  have hk : (litsOf l)[i]? = some (.lit (.int .u32 k)) := by
    rw [hx, List.getElem?_map, List.getElem?_eq_getElem (by omega), e2]
    rfl
  have hkk : k = (l.getD i 0 : Int) := by
    rw [litsOf, List.getElem?_map] at hk
    rw [List.getD_eq_getElem?_getD]
    cases hli : l[i]? with
    | none => rw [hli] at hk; cases hk
    | some v =>
      rw [hli] at hk
      simp at hk
      simp [← hk]
  have hc := congrArg (fun x : List Value => x[0]?) e1
  simp at hc
  rw [hv i, hc, hkk]

theorem of_laid {W : World} (h : laidMetH Tryz.prog laidL W) : Tabs W := by
  rw [MakeChecks.laidMetH_plain _ _ _ (by kernel_rfl)] at h
  obtain ⟨ps, ⟨g0, t0, cs0, f0, p0, q0, hg0, ht0, hv0, hd0, ⟨g1, t1, cs1, f1, p1, q1, hg1, ht1, hv1, hd1, _, _⟩, _⟩, _, _⟩ := h
  obtain rfl := Option.some.inj (gNums.symm.trans hg0)
  obtain rfl := Option.some.inj (gFirst.symm.trans hg1)
  obtain rfl := Option.some.inj (tNums.symm.trans ht0)
  obtain rfl := Option.some.inj (tFirst.symm.trans ht1)
  rw [nums_data] at hd0
  rw [first_data] at hd1
  have k0 := tab_cells (g := 1) Tryz.underlying140 (fun i => (World.var?_cell hg0 hv0 i).trans (by simp)) hd0
  have k1 := tab_cells (g := 0) Tryz.underlying98 (fun i => (World.var?_cell hg1 hv1 i).trans (by simp)) hd1
  refine ⟨?_, fun t ht => ?_, fun t ht => ?_⟩
  · have a := block_lt_of_cell (k0 0 (by decide))
    have b := block_lt_of_cell (k1 0 (by decide))
    simp at a b
    omega
  · rw [k0 t ht, kW, UInt32.toNat_ofNat', Nat.mod_eq_of_lt (kNat_lt t)]
  · rw [k1 t ht, hW, UInt32.toNat_ofNat', Nat.mod_eq_of_lt (hNat_lt t)]
end Go.Proofs.YtbniilajffjfcaaGreatDoor.Sha
