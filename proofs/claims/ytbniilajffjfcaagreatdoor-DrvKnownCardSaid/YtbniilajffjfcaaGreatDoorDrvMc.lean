/- drv: what DrvKnown's loops want: a row's beginning, appended; calls in a region that draws. -/
import Derived.Test.YtbniilajffjfcaaGreatDoorDrvMa
import Derived.Test.YtbniilajffjfcaaGreatDoorInvW
import Derived.ArgAppend
import Derived.Deep.Upon
set_option linter.unusedVariables false
set_option linter.unusedSimpArgs false
namespace Go.Proofs.YtbniilajffjfcaaGreatDoor
open Go.RowKit Go.BigFrame

theorem putR_len (nm : ByteArray) (ins : List ByteArray) (rc : ByteArray) : (putR nm ins rc).length ≤ 300000 := by
  unfold putR
  cases h : rightD nm ins rc
  · simp
  · obtain ⟨h1, h2, h3, h4⟩ := right_parts h
    have := insL_len h4 ins.length (Nat.le_refl _)
    rw [List.take_length] at this
    simp only [if_true]
    unfold putL
    rw [List.length_append, List.length_append, headL_len, textL_len]
    omega
/-- A beginning of a row of bytes. -/
theorem Byt.cut {w : World} {A : Option Addr} {cap : Nat} {l : List UInt8} (h : Byt w (.slice A l.length cap) l) (i : Nat) (hi : i ≤ l.length) : Byt w (.slice A i cap) (l.take i) := by
  obtain ⟨A', cap', e, h1, h2, h3, h4⟩ := h
  cases e
  have hl : (l.take i).length = i := by rw [List.length_take]; omega
  refine ⟨A, cap, by rw [hl], by omega, h2, fun h0 => ?_, h4⟩
  rw [hl] at h0 ⊢
  obtain ⟨ad, e, hb, hc⟩ := h3 (by omega)
  refine ⟨ad, e, hb, fun j hj => ?_⟩
  rw [hc j (by omega)]
  unfold dOf
  rw [show (l.take i).getD j 0 = l.getD j 0 by simp [List.getD_eq_getElem?_getD, List.getElem?_take, hj]]
theorem Byt.at {w : World} {ad : Addr} {n cap : Nat} {l : List UInt8} (h : Byt w (.slice (some ad) n cap) l) : n = l.length ∧ ∀ j u, (u8c l)[j]? = some u → w.cell? (ad.add j) = some u := by
  obtain ⟨A', cap', e, h1, h2, h3, h4⟩ := h
  cases e
  refine ⟨rfl, fun j u hu => ?_⟩
  have hj : j < l.length := by have := (List.getElem?_eq_some_iff.1 hu).1; rwa [u8c_len] at this
  obtain ⟨ad', e, hb, hc⟩ := h3 (by omega)
  cases e
  rw [hc j hj, ← hu, dOf_cells, cells_get _ _ _ hj]
theorem app_byt (w : World) (A : Option Addr) (cap : Nat) (l : List UInt8) (h : Byt w (.slice A l.length cap) l) (hn : l.length ≤ 300000) (i : Nat) (hi : i ≤ l.length) :
    ∃ v' w', (Builtin.append_ #[26, 26] 26 #[.slice A l.length l.length, .slice A i cap]).run Tryz.prog w = .ok v' w' ∧ Byt w' v' (l ++ l.take i) ∧ Below w.heap.size w w' := by
  obtain ⟨i0, hi0, hz0, hz1, hz2⟩ := info_parts infoU8
  by_cases h0 : i = 0
  · subst h0
    have hs : Src Tryz.prog i0.size 26 (.slice A 0 cap) 0 [] w := by
      cases A with
      | none => exact Src.ofNil w Tryz.underlying26 _
      | some ad => exact Src.ofSlice w Tryz.underlying26 ad 0 cap [] (by simp) (fun j u hu => by simp at hu) (fun u hu => by cases hu)
    refine ⟨_, _, run_append_nothing w _ _ _ _ i0 Tryz.underlying26 hi0 A l.length l.length (Nat.le_refl _) _ hs, ?_, Below.refl _ _⟩
    rw [List.take_zero, List.append_nil]
    obtain ⟨A', cap', e, h1, h2, h3, h4⟩ := h
    cases e
    exact ⟨A, l.length, rfl, Nat.le_refl _, by unfold maxLen; omega, h3, fun e => by have := h4 e; omega⟩
  · have hA : ∃ ad, A = some ad := by
      obtain ⟨A', cap', e, h1, h2, h3, h4⟩ := h
      cases e
      obtain ⟨ad, e, _⟩ := h3 (by omega)
      exact ⟨ad, e⟩
    obtain ⟨ad, rfl⟩ := hA
    obtain ⟨_, hc⟩ := h.at
    have hl : (l.take i).length = i := by rw [List.length_take]; omega
    obtain ⟨_, hc2⟩ := (h.cut i hi).at
    obtain ⟨v', w', hr, ho, hg⟩ := run_append_arg_grows (P := Tryz.prog) w 26 26 5 i0 _ 1 1 Tryz.underlying26 hi0 hz0 hz1 hz2 rfl (by decide) ad l.length l.length (u8c l) (by rw [u8c_len]; omega) hc ad i cap (u8c (l.take i)) (by rw [u8c_len, hl]; omega) hc2 (by omega) (by unfold maxLen; omega) (by omega)
    rw [← u8c_app] at ho
    refine ⟨v', w', hr, ?_, ?_⟩
    · have hlen : l.length + i = (l ++ l.take i).length := by rw [List.length_append, hl]
      rw [hlen] at ho
      rw [dOf_cells] at ho
      exact own_slice ho
    · exact (Below.refl _ w).grown hg (Nat.le_refl _) (fun k e => by cases e)
/-- A call's operation. -/
theorem wp_of_call {P : Program} {Q : Exit → Act → World → Prop} {o : Oper} {K : Act → World → Prop} {a : Act} {w w1 : World} {f : FuncId} {args : Array Value} (h : (execOp a.eval o).run P w = .ok (.enter f args) w1)
    (hc : Calls P f args w1 fun e w' => ∃ v, e = .returned v ∧ K (a.put o.dst v) w') : o.wp P a w K Q := by
  unfold Oper.wp
  simp only [h]
  refine hc.mono ?_
  rintro e w' ⟨v, rfl, hk⟩
  exact hk
/-- A guarded operation whose guard holds. -/
theorem wanted_of {ops : Array Oper} {o p : Oper} {a : Act} {j d : Nat} {b : Bool} (hg : o.guard = some (j, b)) (hp : ops[j]? = some p) (hd : p.dst = some d) (hv : a.tmps.getD d undef = .bool b) : Region.wanted o (yielded ops a.tmps) = true := by
  have hy : yielded ops a.tmps j = some b := by
    unfold yielded
    rw [hp]
    simp only [Option.bind_some, hd]
    by_cases hlt : d < a.tmps.size
    · rw [Array.getElem?_eq_getElem hlt]
      have : a.tmps[d] = .bool b := by simpa [Array.getD, hlt] using hv
      rw [this]
    · simp [Array.getD, hlt] at hv
      cases hv
  unfold Region.wanted
  rw [hg]
  simp [hy]
theorem byt_form {w : World} {v : Value} {l : List UInt8} {n : Nat} (h : Byt w v l) (hn : l.length = n) : ∃ A c, v = .slice A n c := by
  obtain ⟨A, c, e, _⟩ := h
  exact ⟨A, c, by rw [← hn]; exact e⟩
/-- What region 23's slots hold. -/
def R23 (B : Option Addr) (cap : Nat) (l : List UInt8) (i : Nat) (k : Nat) (v : Value) (w : World) : Prop := match k with
  | 0 => v = .slice B l.length cap
  | 1 => v = .int .i64 (i : Int)
  | 2 => v = .slice B i cap
  | 3 => v = .bool true
  | 4 => v = .bool false
  | 5 => v = .int .i64 (l.length : Int)
  | 6 => v = .slice B l.length l.length
  | 7 => ∃ A c, v = .slice A (l.length + i) c ∧ Byt w v (l ++ l.take i)
  | _ => True
theorem R23_below {B : Option Addr} {cap : Nat} {l : List UInt8} {i k : Nat} {v : Value} {w w' : World} (h : R23 B cap l i k v w) (hb : Below w.heap.size w w') : R23 B cap l i k v w' := by
  unfold R23 at *
  split at h
  · exact h
  · exact h
  · exact h
  · exact h
  · exact h
  · exact h
  · exact h
  · obtain ⟨A, c, e, hy⟩ := h
    exact ⟨A, c, e, hy.below hb⟩
  · exact trivial
def kinds23 : List Nat := [0, 1, 2, 3, 4, 4, 0, 0, 5, 0, 5, 6, 0, 1, 2, 7, 3, 4, 4]
theorem slice60 (s : ByteArray) (h : s.size = 61) (w : World) : ((do let x ← Instr.sliceAt 9 (.string s) none (some (.int .i64 60)) none; pure (Next.value x)) : Sem Next).run Tryz.prog w = .ok (.value (.string (s.extract 0 60))) w := by
  have e1 : Tryz.prog.underlying 9 = some .string := by kernel_rfl
  have e2 : (Instr.sliceAt 9 (.string s) none (some (.int .i64 60)) none).run Tryz.prog w = .ok (.string (s.extract 0 60)) w := (run_sliceAt_string w _ _ _ _ _ e1).trans (run_slice_string_h w _ s e1 .i64 60 (by decide) (by omega))
  simp [Sem.run_bind, e2, Result.andThen]
theorem slice1 (A : Option Addr) (c : Nat) (hc : 65 ≤ c) (w : World) : ((do let x ← Instr.sliceAt 25 (.slice A 65 c) (some (.int .i64 1)) none none; pure (Next.value x)) : Sem Next).run Tryz.prog w = .ok (.value (.slice (A.map (·.add 1)) 64 (c - 1))) w := by
  have e0 : Tryz.prog.underlying 25 = some (.slice (Tryz.prog.elem 25)) := by kernel_rfl
  have e3 : (sizeOf (Tryz.prog.elem 25)).run Tryz.prog w = .ok 1 w := by kernel_rfl
  have e2 : (Instr.sliceAt 25 (.slice A 65 c) (some (.int .i64 1)) none none).run Tryz.prog w = .ok (.slice (A.map (·.add 1)) 64 (c - 1)) w := by
    rw [run_sliceAt_slice w _ _ _ _ _ e0, run_slice_l w _ A 65 c e0 .i64 1 (by decide) (by decide), e3]
    have : ¬ c = 1 := by omega
    simp [Result.andThen, sliced, this]
  simp [Sem.run_bind, e2, Result.andThen]
theorem bslice1 (A : Option Addr) (n c i : Nat) (hi : i ≤ c) (w : World) : ((do let x ← Instr.sliceAt 26 (.slice A n c) none (some (.int .i64 (i : Int))) none; pure (Next.value x)) : Sem Next).run Tryz.prog w = .ok (.value (.slice A i c)) w := by
  have e0 : Tryz.prog.underlying 26 = some (.slice (Tryz.prog.elem 26)) := by kernel_rfl
  have e3 : (sizeOf (Tryz.prog.elem 26)).run Tryz.prog w = .ok 1 w := by kernel_rfl
  have e2 : (Instr.sliceAt 26 (.slice A n c) none (some (.int .i64 (i : Int))) none).run Tryz.prog w = .ok (.slice A i c) w := by
    rw [run_sliceAt_slice w _ _ _ _ _ e0, run_slice_h w _ A n c e0 .i64 (i : Int) (by omega) (by omega), e3]
    cases A <;> simp [Result.andThen, sliced, add_zero]
  simp [Sem.run_bind, e2, Result.andThen]
theorem bslice2 (A : Option Addr) (n c : Nat) (hi : n ≤ c) (w : World) : ((do let x ← Instr.sliceAt 26 (.slice A n c) none (some (.int .i64 (n : Int))) (some (.int .i64 (n : Int))); pure (Next.value x)) : Sem Next).run Tryz.prog w = .ok (.value (.slice A n n)) w := by
  have e0 : Tryz.prog.underlying 26 = some (.slice (Tryz.prog.elem 26)) := by kernel_rfl
  have e3 : (sizeOf (Tryz.prog.elem 26)).run Tryz.prog w = .ok 1 w := by kernel_rfl
  have e2 : (Instr.sliceAt 26 (.slice A n c) none (some (.int .i64 (n : Int))) (some (.int .i64 (n : Int)))).run Tryz.prog w = .ok (.slice A n n) w := by
    rw [run_sliceAt_slice w _ _ _ _ _ e0, run_slice_hm w _ A n c e0 .i64 .i64 (n : Int) (n : Int) (by omega) (by omega) (by omega), e3]
    cases A <;> simp [Result.andThen, sliced, add_zero]
  simp [Sem.run_bind, e2, Result.andThen]
theorem RowM.form {v : Value} {w : World} (h : RowM v w) : ∃ A c, v = .slice A 65 c ∧ 65 ≤ c := by
  obtain ⟨l, h1, _, h3⟩ := h
  obtain ⟨A, c, e, hc, _⟩ := h1
  rw [h3] at e hc
  exact ⟨A, c, e, hc⟩
theorem RowM.tail {A : Option Addr} {c : Nat} {w : World} (h : RowM (.slice A 65 c) w) : RowTs (.slice (A.map (·.add 1)) 64 (c - 1)) w := by
  have hc : 65 ≤ c := by obtain ⟨A1, c1, e, h1⟩ := h.form; cases e; exact h1
  obtain ⟨l, h1, h2, h3⟩ := h
  cases l with
  | nil => cases h3
  | cons s l =>
    exact ⟨l, TRow.tail h1 (by omega), fun t ht => h2 t (List.mem_cons_of_mem _ ht)⟩
theorem flat3 : ∀ (xs : List D3) (i j : Nat), i < xs.length → j < 3 → (xs.flatMap d3V)[i * 3 + j]? = (d3V (xs.getD i default))[j]?
  | [], i, j, h, _ => by simp at h
  | x :: xs, 0, j, _, hj => by
    rw [List.flatMap_cons, List.getElem?_append_left (by simp [d3V]; omega)]
    simp
  | x :: xs, i + 1, j, h, hj => by
    rw [List.flatMap_cons, List.getElem?_append_right (by simp [d3V]; omega)]
    have := flat3 xs i j (by simpa using h) hj
    simp only [List.getD_cons_succ]
    rw [← this]
    congr 1
    simp [d3V]
    omega
theorem drvs_blk {w : World} {g : Nat} {cs : Array Value} {T : TypeId} {xs : List D3} (hg : w.heap[g]? = some (.cells cs T (0, 0))) (hc : cs.toList = xs.flatMap d3V) (hl : xs.length = 11) (hx : ∀ x ∈ xs, D3Ok w x) : DrvsV (.slice (some ⟨g, 0, none⟩) 11 11) w := by
  refine ⟨⟨g, 0, none⟩, fun i => xs.getD i default, rfl, block_lt hg, fun i hi => ⟨?_, fun j u hu => ?_⟩⟩
  · have hi2 : i < xs.length := by omega
    have : xs.getD i default ∈ xs := by simp [List.getD_eq_getElem?_getD, List.getElem?_eq_getElem hi2]
    exact hx _ this
  · have hj : j < 3 := by have := (List.getElem?_eq_some_iff.1 hu).1; simpa [d3V] using this
    have hadd : ∀ k, (⟨g, 0, none⟩ : Addr).add k = ⟨g, k, none⟩ := fun k => by unfold Addr.add; split <;> simp_all
    rw [add_two, hadd, cell_of_row _ _ _ _ _ _ hg, ← Array.getElem?_toList, hc, flat3 xs i j (by omega) hj]
    exact hu
def u8N : Option Value → Nat
  | some (.int .u8 x) => (x % 256).toNat
  | _ => 0
theorem u8N_lt (v : Option Value) : u8N v < 256 := by
  unfold u8N
  split
  · rename_i x
    have h1 := Int.emod_lt_of_pos x (show (0 : Int) < 256 by decide)
    have h2 := Int.emod_nonneg x (show (256 : Int) ≠ 0 by decide)
    omega
  · decide
theorem u8N_is (x : Int) (h0 : 0 ≤ x) (h1 : x ≤ 255) : ((u8N (some (.int .u8 x)) : Nat) : Int) = x := by
  show (((x % 256).toNat : Nat) : Int) = x
  rw [Int.emod_eq_of_lt h0 (by omega)]
  omega
theorem MByt.byt {w : World} {g n : Nat} {cs : Array Value} (h : MByt w g n cs) {cap : Nat} (hc : n ≤ cap) (hm : cap ≤ maxLen) : ∃ l : List UInt8, l.length = n ∧ Byt w (.slice (some ⟨g, 0, none⟩) n cap) l := by
  refine ⟨txt (fun j => u8N cs[j]?) n, txt_len _ n, byt_of (fun j => u8N_lt _) hc hm (fun hn => ⟨_, rfl, block_lt h.blk, fun j hj => ?_⟩) (fun e => by cases e)⟩
  have hadd : (⟨g, 0, none⟩ : Addr).add j = ⟨g, j, none⟩ := by unfold Addr.add; split <;> simp_all
  obtain ⟨x, hx, h0, h1⟩ := h.u8 j hj
  rw [hadd, h.cell j, hx, u8N_is x h0 h1]
/-- The big row of zeros, and its text. -/
theorem big_row : ∃ (R : Array Value) (s : ByteArray), s.size = 262145 ∧
    (∀ wx : World, (Instr.makeSlice 26 (.int .i64 262145) (.int .i64 262145)).run Tryz.prog wx = .ok (.slice (some ⟨wx.heap.size, 0, none⟩) 262145 262145) (wx.alloc (.cells R 5))) ∧
    ∀ wx : World, (convert 26 9 (.slice (some ⟨wx.heap.size, 0, none⟩) 262145 262145)).run Tryz.prog (wx.alloc (.cells R 5)) = .ok (.string s) (wx.alloc (.cells R 5)) := by
  have hmk := fun (n : Nat) (h1 : 1 * n ≤ 281474976710656) (h2 : n ≤ 9223372036854775807) (w : World) => run_make_row' (P := Tryz.prog) 26 5 (.int .u8 0) 1 Tryz.underlying26 (by kernel_rfl) rfl .i64 .i64 n h1 h2 w
  have key : ∀ (n : Nat), n ≤ maxLen → ∃ (R : Array Value) (s : ByteArray), R = madeCells #[.int .u8 0] n ∧ s.size = n ∧ ∀ wx : World, (convert 26 9 (.slice (some ⟨wx.heap.size, 0, none⟩) n n)).run Tryz.prog (wx.alloc (.cells R 5)) = .ok (.string s) (wx.alloc (.cells R 5)) := fun n hn => by
    refine ⟨_, strOf (txt (fun _ => 0) n), rfl, by rw [strOf_size, txt_len], fun wx => ?_⟩
    rw [made_zero]
    exact (byt_of (w := wx.alloc (.cells (digA (fun _ => 0) n) 5)) (d := fun _ => 0) (A := some ⟨wx.heap.size, 0, none⟩) (n := n) (cap := n) (fun _ => by decide) (Nat.le_refl _) hn (holds_new wx _ _ n (0, 0)) (fun e => by cases e)).conv
  obtain ⟨R, s, hR, hs, hc⟩ := key 262145 (by decide)
  refine ⟨R, s, hs, fun wx => ?_, hc⟩
  have := hmk 262145 (by decide) (by decide) wx
  rw [← hR] at this
  exact this
theorem right_x (s : ByteArray) : rightD ⟨#[120]⟩ [] s = decide (s.size ≤ 262144) := by
  have h1 : Nam.rightB ⟨#[120]⟩ = true := by decide
  unfold rightD
  rw [h1]
  simp [insOk]
  exact fun _ => by decide
theorem infoRow : (Tryz.prog.info? 25).map (fun i => (i.zero, i.size, i.bytes)) = some (some (.slice none 0 0), 1, 24) := by kernel_rfl
/-- Rows of texts in a row of the call's own. -/
def Gr (w : World) (base : Nat) (v : Value) (rows : List (List ByteArray)) : Prop :=
  ∃ vs, w.ownsRow base 25 1 v vs.length vs ∧ ItemsS TRow w (fun b => v.ownBlock ≠ some b) vs rows
theorem Gr.nil (w : World) (base : Nat) : Gr w base (.slice none 0 0) [] := ⟨[], World.ownsRow_nil _ _ _ _, ItemsS.nil _ _ _⟩
theorem Gr.below {w w' : World} {base : Nat} {v : Value} {rows : List (List ByteArray)} (h : Gr w base v rows) (hb : Below w.heap.size w w') : Gr w' base v rows := by
  obtain ⟨vs, h1, h2⟩ := h
  exact ⟨vs, own_below h1 hb (Nat.le_refl _), h2.keep TRow.keeps (SameS.below hb _)⟩
theorem Gr.form {w : World} {base : Nat} {v : Value} {rows : List (List ByteArray)} (h : Gr w base v rows) : ∃ A c, v = .slice A rows.length c := by
  obtain ⟨vs, h1, h2⟩ := h
  obtain ⟨A, c, e⟩ := own_form h1
  exact ⟨A, c, by rw [← h2.1]; exact e⟩
theorem Gr.texts {w : World} {base : Nat} {v : Value} {rows : List (List ByteArray)} (h : Gr w base v rows) : TextsAt w v rows := by
  obtain ⟨vs, h1, h2⟩ := h
  refine ⟨vs, ?_, h2.weak TRow.keeps fun _ _ _ => trivial⟩
  rw [← h2.1]
  exact RdS.all (RdS.own h1)
theorem wpList_pushR {w : World} {ops : Array Oper} {rest : List Oper} {o : Oper} {a : Act} {Q : Exit → Act → World → Prop} (hgd : o.guard = none) (s x : Operand)
    (ho : o.op = .call { callee := .builtin .append, args := #[s, x], argTypes := #[36, 36] })
    (base : Nat) (v : Value) (rows : List (List ByteArray)) (hs : a.eval s = v) (hown : Gr w base v rows) (ad : Addr) (u : Value) (hx : a.eval x = .slice (some ad) 1 1) (hc : w.cell? ad = some u) (hl : rows.length ≤ 1000) (hbase : base ≤ w.heap.size)
    (r : List ByteArray) (hu1 : u.oneCell' = true) (hur : TRow w (fun b => v.ownBlock ≠ some b) u r) (rows2 : List (List ByteArray)) (hr2 : rows2 = rows ++ [r])
    (h : ∀ A c w', Gr w' base (.slice A rows2.length c) rows2 → Below base w w' → wpList Tryz.prog ops Q rest (a.put o.dst (.slice A rows2.length c)) w') : wpList Tryz.prog ops Q (o :: rest) a w := by
  subst hr2
  obtain ⟨vs, h1, h2⟩ := hown
  obtain ⟨i0, hi, hz0, hz1, hz2⟩ := info_parts infoRow
  have hc' : ∀ j y, [u][j]? = some y → w.cell? (ad.add j) = some y := fun j y hy => by
    match j, hy with
    | 0, hy => simp at hy; subst hy; rw [add_zero]; exact hc
  refine wpList_app hgd s x 36 ho base 25 i0 (.slice none 0 0) 24 Tryz.underlying36 hi hz0 hz1 hz2 rfl v vs.length _ hs h1 ad 1 1 [u] hx rfl hc' (by intro y hy; simp at hy; subst hy; exact hu1) (by have := h2.1; unfold maxLen; omega) (by have := h2.1; omega) hbase ?_
  intro v' w1 hown1 hgrow1 hm
  have hk : ItemsS TRow w1 (fun b => v.ownBlock ≠ some b) (vs ++ [u]) (rows ++ [r]) := (h2.snoc hur).keep TRow.keeps (SameS.grown hgrow1)
  have hlen : (vs ++ [u]).length = (rows ++ [r]).length := hk.1
  have hown2 : w1.ownsRow base 25 1 v' (vs ++ [u]).length (vs ++ [u]) := by rw [List.length_append]; exact hown1
  have hk2 : ItemsS TRow w (fun b => v'.ownBlock ≠ some b) (vs ++ [u]) (rows ++ [r]) := (h2.snoc hur).weak TRow.keeps fun b hb hne => hm.ne hb hne
  have hk3 : ItemsS TRow w1 (fun b => v'.ownBlock ≠ some b) (vs ++ [u]) (rows ++ [r]) := by
    have h3 : ItemsS TRow w (fun b => b < w.heap.size ∧ v.ownBlock ≠ some b) (vs ++ [u]) (rows ++ [r]) := (h2.snoc hur).weak TRow.keeps fun b hb hne => ⟨hb, hne⟩
    have h4 := h3.keep TRow.keeps (show SameS w w1 (fun b => b < w.heap.size ∧ v.ownBlock ≠ some b) from ⟨hgrow1.size, fun b hb hs => hgrow1.block b hb fun e => hs.2 e.symm⟩)
    exact h4.weak TRow.keeps fun b hb hs => hm.ne hs.1 hs.2
  obtain ⟨A, c, rfl⟩ := own_form hown2
  rw [hlen]
  refine h A c w1 ⟨vs ++ [u], by rw [← hlen]; exact hown2, by rw [← hlen]; exact hk3⟩ ((Below.refl _ _).mono hbase |>.grown hgrow1 hbase fun g e => (h1.lt g e).1)
/-- The first rows. -/
theorem texts_cut {w : World} {A : Option Addr} {n c : Nat} {rows : List (List ByteArray)} (h : TextsAt w (.slice A n c) rows) (k : Nat) (hk : k ≤ rows.length) : TextsAt w (.slice A k c) (rows.take k) := by
  obtain ⟨vs, ⟨A', cap', e, h1, h2, h3, h4⟩, hi⟩ := h
  cases e
  have hl : (rows.take k).length = k := by rw [List.length_take]; omega
  refine ⟨vs.take k, ⟨A, c, by rw [hl], by omega, h2, h3, fun h0 => ?_⟩, ⟨by rw [List.length_take, List.length_take, hi.1], fun j u x hu hx => ?_⟩⟩
  · obtain ⟨ad, e, hb, hs, hc⟩ := h4 (by omega)
    refine ⟨ad, e, hb, hs, fun j u hu => hc j u ?_⟩
    rw [List.getElem?_take] at hu
    split at hu
    · exact hu
    · cases hu
  · rw [List.getElem?_take] at hu hx
    split at hu
    · rw [if_pos (by assumption)] at hx
      exact hi.2 j u x hu hx
    · cases hu
theorem texts_is {w : World} {A : Option Addr} {n c : Nat} {rows : List (List ByteArray)} (h : TextsAt w (.slice A n c) rows) : n = rows.length ∧ n ≤ c := by
  obtain ⟨vs, ⟨A', cap', e, h1, _⟩, _⟩ := h
  cases e
  exact ⟨rfl, h1⟩
def abc : List ByteArray := [⟨#[97]⟩, ⟨#[98]⟩, ⟨#[99]⟩]
theorem abc_small {q : Nat} (hq : q < 3) : (abc.getD q ⟨#[]⟩).size = 1 := by
  match q, hq with
  | 0, _ => rfl
  | 1, _ => rfl
  | 2, _ => rfl
/-- The names' block. -/
def NamesAt (w : World) (g : Nat) : Prop := w.heap[g]? = some (.cells #[.string ⟨#[97]⟩, .string ⟨#[98]⟩, .string ⟨#[99]⟩] 9 (0, 0))
theorem NamesAt.below {w w' : World} {g : Nat} (h : NamesAt w g) (hb : Below w.heap.size w w') : NamesAt w' g := (hb.block g (block_lt h)).trans h
theorem NamesAt.cell {w : World} {g q : Nat} (h : NamesAt w g) (hq : q < 3) : w.cell? ⟨g, q, none⟩ = some (.string (abc.getD q ⟨#[]⟩)) := by
  rw [cell_of_row _ _ _ _ _ _ h]
  match q, hq with
  | 0, _ => rfl
  | 1, _ => rfl
  | 2, _ => rfl
theorem NamesAt.row {w : World} {g : Nat} (h : NamesAt w g) : TRow w AllB (.slice (some ⟨g, 0, none⟩) 3 3) abc := by
  refine ⟨_, _, rfl, Nat.le_refl _, by decide, (fun e => by cases e), fun _ => ⟨_, rfl, block_lt h, trivial, fun j u hu => ?_⟩⟩
  have hj : j < 3 := by have := (List.getElem?_eq_some_iff.1 hu).1; simpa [strs, abc] using this
  have hadd : (⟨g, 0, none⟩ : Addr).add j = ⟨g, j, none⟩ := by unfold Addr.add; split <;> simp_all
  rw [hadd, h.cell hj, ← hu]
  match j, hj with
  | 0, _ => rfl
  | 1, _ => rfl
  | 2, _ => rfl
theorem NamesAt.one {w : World} {g q : Nat} (h : NamesAt w g) (hq : q < 3) : TRow w AllB (.slice (some ⟨g, q, none⟩) 1 (3 - q)) [abc.getD q ⟨#[]⟩] := by
  refine ⟨_, _, rfl, by simp; omega, by unfold maxLen; omega, (fun e => by cases e), fun _ => ⟨_, rfl, block_lt h, trivial, fun j u hu => ?_⟩⟩
  have hj : j = 0 := by have := (List.getElem?_eq_some_iff.1 hu).1; simp [strs] at this; exact this
  subst hj
  rw [add_zero, h.cell hq, ← hu]
  rfl
/-- What region 51's slots hold. -/
def R51 (gN : Nat) (A1 : Option Addr) (c1 m q r : Nat) (nq : ByteArray) (k : Nat) (v : Value) (w : World) : Prop := match k with
  | 0 => v = .slice (some ⟨gN, 0, none⟩) 3 3
  | 1 => v = .slice A1 3 c1
  | 2 => v = .int .i64 (m : Int)
  | 3 => v = .bool true
  | 4 => v = .bool false
  | 5 => v = .int .i64 (q : Int)
  | 6 => v = .int .i64 ((q : Int) + 1)
  | 7 => v = .slice (some ⟨gN, q, none⟩) 1 (3 - q)
  | 8 => v = .int .i64 (r : Int)
  | 9 => v = .slice A1 r c1
  | 10 => v = .pointer (some ⟨gN, q, none⟩)
  | 11 => v = .string nq
  | 12 => ∃ g2, v = .slice (some ⟨g2, 0, none⟩) 2 2 ∧ TRow w AllB v [⟨#[120]⟩, nq]
  | _ => True
theorem R51_below {gN : Nat} {A1 : Option Addr} {c1 m q r : Nat} {nq : ByteArray} {k : Nat} {v : Value} {w w' : World} (h : R51 gN A1 c1 m q r nq k v w) (hb : Below w.heap.size w w') : R51 gN A1 c1 m q r nq k v w' := by
  unfold R51 at *
  split at h
  all_goals first
    | exact h
    | (obtain ⟨g2, e, hy⟩ := h
       exact ⟨g2, e, RdS.below hy hb⟩)
def kinds51 : List Nat := [0, 1, 3, 4, 4, 0, 1, 0, 2, 5, 2, 5, 6, 7, 3, 4, 4, 4, 0, 1, 2, 8, 9, 0, 2, 5, 10, 11, 12, 3, 4, 4]
theorem rem_run (m n : Nat) (hn : 0 < n) (hn2 : n ≤ 1000) (hm : m ≤ 512) (x y : Operand) (w : World) : ((do let x ← (do eqGuard .rem 3 x y (.int .i64 (m : Int)) (.int .i64 (n : Int)); binOp .rem 3 (.int .i64 (m : Int)) (.int .i64 (n : Int)) : Sem Value); pure (Next.value x)) : Sem Next).run Tryz.prog w = .ok (.value (.int .i64 ((m % n : Nat) : Int))) w := by
  have h0 : ¬ n = 0 := by omega
  simp [go_sem, h0]
  exact Int.tmod_eq_emod_of_nonneg (by omega)
theorem add_run (m : Nat) (hm : m ≤ 512) (x y : Operand) (w : World) : ((do let x ← (do eqGuard .add 3 x y (.int .i64 (m : Int)) (.int .i64 1); binOp .add 3 (.int .i64 (m : Int)) (.int .i64 1) : Sem Value); pure (Next.value x)) : Sem Next).run Tryz.prog w = .ok (.value (.int .i64 ((m : Int) + 1))) w := by
  have h1 : IntKind.i64.wrap ((m : Int) + 1) = (m : Int) + 1 := IntWalk.i64_in _ (by omega)
  simp [go_sem, h1]
theorem nslice (g q : Nat) (hq : q < 3) (w : World) : ((do let x ← Instr.sliceAt 25 (.slice (some ⟨g, 0, none⟩) 3 3) (some (.int .i64 (q : Int))) (some (.int .i64 ((q : Int) + 1))) none; pure (Next.value x)) : Sem Next).run Tryz.prog w = .ok (.value (.slice (some ⟨g, q, none⟩) 1 (3 - q))) w := by
  have e0 : Tryz.prog.underlying 25 = some (.slice (Tryz.prog.elem 25)) := by kernel_rfl
  have e3 : (sizeOf (Tryz.prog.elem 25)).run Tryz.prog w = .ok 1 w := by kernel_rfl
  have e2 : (Instr.sliceAt 25 (.slice (some ⟨g, 0, none⟩) 3 3) (some (.int .i64 (q : Int))) (some (.int .i64 ((q : Int) + 1))) none).run Tryz.prog w = .ok (.slice (some ⟨g, q, none⟩) 1 (3 - q)) w := by
    rw [run_sliceAt_slice w _ _ _ _ _ e0, run_slice_lh w _ (some ⟨g, 0, none⟩) 3 3 e0 .i64 .i64 (q : Int) ((q : Int) + 1) (by omega) (by omega) (by omega), e3]
    have hadd : (⟨g, 0, none⟩ : Addr).add q = ⟨g, q, none⟩ := by unfold Addr.add; split <;> simp_all
    have h1 : ((q : Int) + 1).toNat - q = 1 := by omega
    have h3 : ¬ 3 = q := by omega
    simp [Result.andThen, sliced, hadd, h1, h3]
  simp [Sem.run_bind, e2, Result.andThen]
theorem rslice (A : Option Addr) (c r : Nat) (hc : 3 ≤ c) (hr : r ≤ 3) (w : World) : ((do let x ← Instr.sliceAt 36 (.slice A 3 c) none (some (.int .i64 (r : Int))) none; pure (Next.value x)) : Sem Next).run Tryz.prog w = .ok (.value (.slice A r c)) w := by
  have e0 : Tryz.prog.underlying 36 = some (.slice (Tryz.prog.elem 36)) := by kernel_rfl
  have e3 : (sizeOf (Tryz.prog.elem 36)).run Tryz.prog w = .ok 1 w := by kernel_rfl
  have e2 : (Instr.sliceAt 36 (.slice A 3 c) none (some (.int .i64 (r : Int))) none).run Tryz.prog w = .ok (.slice A r c) w := by
    rw [run_sliceAt_slice w _ _ _ _ _ e0, run_slice_h w _ A 3 c e0 .i64 (r : Int) (by omega) (by omega), e3]
    cases A <;> simp [Result.andThen, sliced, add_zero]
  simp [Sem.run_bind, e2, Result.andThen]
theorem nidx (g q : Nat) (hq : q < 3) (w : World) : ((do let x ← Instr.indexAt 25 (.slice (some ⟨g, 0, none⟩) 3 3) (.int .i64 (q : Int)); pure (Next.value x)) : Sem Next).run Tryz.prog w = .ok (.value (.pointer (some ⟨g, q, none⟩))) w := by
  have hadd : (⟨g, 0, none⟩ : Addr).add q = ⟨g, q, none⟩ := by unfold Addr.add; split <;> simp_all
  have h1 : (q : Int) < 3 := by omega
  simp [go_sem, hadd, h1]
theorem nload (g q : Nat) (s : ByteArray) (w : World) (h : w.cell? ⟨g, q, none⟩ = some (.string s)) : ((do let x ← Instr.loadAt 9 (.pointer (some ⟨g, q, none⟩)); pure (Next.value x)) : Sem Next).run Tryz.prog w = .ok (.value (.string s)) w := by
  simp [go_sem, h]
theorem texts_nil (w : World) : TextsAt w (.slice none 0 0) [] := ⟨[], RdS.nil _ _, ItemsS.nil _ _ _⟩
theorem texts_one (w : World) (s : ByteArray) : TextsAt ((w.alloc (.cells #[.string s] 9)).alloc (.cells #[.slice (some ⟨w.heap.size, 0, none⟩) 1 1] 25)) (.slice (some ⟨w.heap.size + 1, 0, none⟩) 1 1) [[s]] := by
  obtain ⟨w1, hw1⟩ : ∃ w1, w1 = w.alloc (.cells #[.string s] 9) := ⟨_, rfl⟩
  have hz : w.heap.size + 1 = w1.heap.size := by rw [hw1]; simp
  have h1 : TRow w1 AllB (.slice (some ⟨w.heap.size, 0, none⟩) 1 1) [s] := by rw [hw1]; exact trow_new w #[.string s] 9 [s] rfl (by simp)
  rw [← hw1, hz]
  have hg := heap_alloc_new w1 (.cells #[.slice (some ⟨w.heap.size, 0, none⟩) 1 1] 25)
  refine ⟨[.slice (some ⟨w.heap.size, 0, none⟩) 1 1], ⟨_, _, rfl, Nat.le_refl _, by decide, (fun e => by cases e), fun _ => ⟨_, rfl, block_lt hg, trivial, fun j u hu => ?_⟩⟩, ⟨rfl, fun k u x hu hx => ?_⟩⟩
  · have hj : j = 0 := by have := (List.getElem?_eq_some_iff.1 hu).1; simp at this; exact this
    subst hj
    rw [add_zero, cell_of_row _ _ _ _ _ _ hg, ← hu]
    rfl
  · have hj : k = 0 := by have := (List.getElem?_eq_some_iff.1 hu).1; simp at this; exact this
    subst hj
    simp at hu hx
    subst hu
    subst hx
    exact RdS.below h1 ((Below.refl _ _).alloc (Nat.le_refl _) _)
end Go.Proofs.YtbniilajffjfcaaGreatDoor
