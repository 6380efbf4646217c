/- files: FilesKnown: kinds; the kit's Barn. -/
import Derived.Test.YtmcafiihicanfaaDoorFilUa
import Derived.Test.YtmcafiihicanfaaDoorInvL
set_option linter.unusedVariables false
set_option linter.unusedSimpArgs false
namespace Go.Proofs.YtmcafiihicanfaaDoor
open Go Go.RowKit Go.BigFrame
open Fil (Es Nd Sp)

theorem wanted_of {ops : Array Oper} {o p : Oper} {a : Act} {j d : Nat} {b : Bool} (hg : o.guard = some (j, b)) (hp : ops[j]? = some p) (hd : p.dst = some d) (hv : a.tmps.getD d undef = .bool b) : Region.wanted o (yielded ops a.tmps) = true := by
  have hy : yielded ops a.tmps j = some b := by
    unfold yielded
    rw [hp]
    simp only [Option.bind_some, hd]
    by_cases hlt : d < a.tmps.size
    · rw [Array.getElem?_eq_getElem hlt]
      have : a.tmps[d] = .bool b := by simpa [Array.getD, hlt] using hv
      rw [this]
    · simp [Array.getD, hlt] at hv
      cases hv
  unfold Region.wanted
  rw [hg]
  simp [hy]
theorem add_text (a b : ByteArray) (w : World) (h : a.size + b.size ≤ 1000) : ((fun v => Next.value v) <$> binOp BinOp.add 9 (.string a) (.string b)).run Tryd.prog w = .ok (.value (.string (a ++ b))) w := by
  have h1 : ¬ 9223372036854775807 < a.size + b.size := by omega
  simp [go_sem, h1]
def NdK (w : World) (B : Nat) (v : Value) : Prop := ∃ (n : Nd) (ev : Value), v = .agg #[.int .u8 (n.k : Int), .string n.d, ev] ∧ EsAt w B ev n.es ∧ n.d.size ≤ maxLen ∧ n.k < 256
def EntV (w : World) (B : Nat) (v : Value) : Prop := ∃ (nm : ByteArray) (k : Nat) (d : ByteArray) (ev : Value) (u : Es), v = .agg #[.string nm, .int .u8 (k : Int), .string d, ev] ∧ EsAt w B ev u ∧ nm.size ≤ maxLen ∧ d.size ≤ maxLen ∧ k < 256
def EsF (w : World) (B : Nat) (v : Value) : Prop := ∃ (u : Es) (A : Option Addr) (c : Nat), v = .slice A u.len c ∧ EsAt w B (.slice A u.len c) u
def RowX (w : World) (m : Nat) (v : Value) : Prop := ∃ (g : Nat) (cs : Array Value), v = .slice (some ⟨g, 0, none⟩) m m ∧ w.heap[g]? = some (.cells cs 26 (0, 0)) ∧
  ∀ i, i < m → ∃ x y z, cs[i * 3]? = some x ∧ cs[i * 3 + 1]? = some y ∧ cs[i * 3 + 2]? = some z ∧ NdK w w.heap.size (.agg #[x, y, z])
inductive Kf
  | tx (n : Nat) | boo (b : Bool) | num (n : Int) | nd | ent | es | row (n : Nat) | val (v : Value)
def RN : Kf → Value → World → Prop
  | .tx n, v, _ => ∃ s, v = .string s ∧ s.size ≤ n
  | .boo b, v, _ => v = .bool b
  | .num n, v, _ => v = .int .i64 n
  | .nd, v, w => NdK w w.heap.size v
  | .ent, v, w => EntV w w.heap.size v
  | .es, v, w => EsF w w.heap.size v
  | .row n, v, w => RowX w n v
  | .val x, v, _ => v = x
theorem NdK.below {w w' : World} {v : Value} (h : NdK w w.heap.size v) (hb : Below w.heap.size w w') : NdK w' w'.heap.size v := by
  obtain ⟨n, ev, rfl, h1, h2⟩ := h
  exact ⟨n, ev, rfl, h1.below hb, h2⟩
theorem RN.below {k : Kf} {v : Value} {w w' : World} (h : RN k v w) (hb : Below w.heap.size w w') : RN k v w' := by
  cases k with
  | tx n => exact h
  | boo b => exact h
  | num n => exact h
  | val x => exact h
  | nd => exact NdK.below h hb
  | ent => obtain ⟨nm, k, d, ev, u, e, h1, h2⟩ := h; exact ⟨nm, k, d, ev, u, e, h1.below hb, h2⟩
  | es => obtain ⟨u, A, c, e, h1⟩ := h; exact ⟨u, A, c, e, h1.below hb⟩
  | row n =>
    obtain ⟨g, cs, e, hg, hr⟩ := h
    refine ⟨g, cs, e, (hb.block g (block_lt hg)).trans hg, fun i hi => ?_⟩
    obtain ⟨x, y, z, h1, h2, h3, h4⟩ := hr i hi
    exact ⟨x, y, z, h1, h2, h3, NdK.below h4 hb⟩
theorem file_lit (s : ByteArray) (w : World) : Calls Tryd.prog 35 #[.string s] w fun e W => e = .returned (.agg #[.int .u8 1, .string s, .slice none 0 0]) ∧ Below w.heap.size w W := by
  go_enter Tryd.func35, Tryd.ntmps35
  have hbw := (Below.refl w.heap.size w).alloc (Nat.le_refl _) (.cells #[.int .u8 1, .string s, .slice none 0 0] 26)
  have hnb := heap_alloc_new w (.cells #[.int .u8 1, .string s, .slice none 0 0] 26)
  have hi : (Tryd.prog.info? 26).map (·.size) = some 3 := by kernel_rfl
  have HH := Lib.hid (And.intro hbw hnb)
  clear hbw hnb
  go_wp2
  exact bodyPost_ret (results_cell_row rfl _ _ _ _ _ _ _ rfl HH.out.2 Tryd.underlying26 (by rfl) hi) rfl ⟨rfl, HH.out.1⟩
theorem load_node {w' : World} {g k : Nat} {d : ByteArray} {v : Value} (h : w'.heap[g]? = some (ndCells k d v)) : (loadVar 26 ⟨g, 0, none⟩).run Tryd.prog w' = .ok (.agg #[.int .u8 (k : Int), .string d, v]) w' :=
  run_loadVar_cells w' ⟨g, 0, none⟩ 26 #[.int .u8 (k : Int), .string d, v] _ (row_cells h) Tryd.underlying26 rfl (by kernel_rfl)
/-- The barn. -/
def innE : Es := .cons ⟨#[101]⟩ 4 ⟨#[]⟩ .nil (.cons ⟨#[114, 117, 110]⟩ 2 ⟨#[103, 111]⟩ .nil (.cons ⟨#[120]⟩ 3 ⟨#[46, 46, 47, 97]⟩ .nil .nil))
def barnN : Nd := ⟨4, ⟨#[]⟩, .cons ⟨#[97]⟩ 1 ⟨#[104, 105]⟩ .nil (.cons ⟨#[100]⟩ 4 ⟨#[]⟩ innE (.cons ⟨#[122]⟩ 1 ⟨#[]⟩ .nil .nil))⟩
def cEB (r1 : Nat) : Array Value := #[.string ⟨#[97]⟩, .int .u8 1, .string ⟨#[104, 105]⟩, .slice none 0 0, .string ⟨#[100]⟩, .int .u8 4, .string ⟨#[]⟩, .slice (some ⟨r1, 0, none⟩) 3 3, .string ⟨#[122]⟩, .int .u8 1, .string ⟨#[]⟩, .slice none 0 0]
theorem barn_es {W : World} {r1 r : Nat} (h1 : W.heap[r1]? = some (.cells #[.string ⟨#[101]⟩, .int .u8 4, .string ⟨#[]⟩, .slice none 0 0, .string ⟨#[114, 117, 110]⟩, .int .u8 2, .string ⟨#[103, 111]⟩, .slice none 0 0, .string ⟨#[120]⟩, .int .u8 3, .string ⟨#[46, 46, 47, 97]⟩, .slice none 0 0] 48 (0, 0))) (h2 : W.heap[r]? = some (.cells (cEB r1) 48 (0, 0))) : EsAt W W.heap.size (.slice (some ⟨r, 0, none⟩) 3 3) barnN.es := by
  have hd : EsAt W W.heap.size (.slice (some ⟨r1, 0, none⟩) 3 3) innE := entRow_at (xs := [.string ⟨#[101]⟩, .int .u8 4, .string ⟨#[]⟩, .slice none 0 0, .string ⟨#[114, 117, 110]⟩, .int .u8 2, .string ⟨#[103, 111]⟩, .slice none 0 0, .string ⟨#[120]⟩, .int .u8 3, .string ⟨#[46, 46, 47, 97]⟩, .slice none 0 0]) h1 rfl (by decide) ⟨_, _, rfl, by decide, by decide, by decide, EsAt.nil _ _, _, _, rfl, by decide, by decide, by decide, EsAt.nil _ _, _, _, rfl, by decide, by decide, by decide, EsAt.nil _ _, rfl⟩
  exact entRow_at (xs := [.string ⟨#[97]⟩, .int .u8 1, .string ⟨#[104, 105]⟩, .slice none 0 0, .string ⟨#[100]⟩, .int .u8 4, .string ⟨#[]⟩, .slice (some ⟨r1, 0, none⟩) 3 3, .string ⟨#[122]⟩, .int .u8 1, .string ⟨#[]⟩, .slice none 0 0]) h2 rfl (by decide) ⟨_, _, rfl, by decide, by decide, by decide, EsAt.nil _ _, _, _, rfl, by decide, by decide, by decide, hd, _, _, rfl, by decide, by decide, by decide, EsAt.nil _ _, rfl⟩
inductive Kb | val (v : Value) | ent | nde | non
def RB (g1 r1 : Nat) : Kb → Value → World → Prop
  | .val x, v, _ => v = x
  | .ent, v, w => ∃ r, v = .slice (some ⟨r, 0, none⟩) 3 3 ∧ g1 + 1 ≤ r ∧ w.heap[r]? = some (.cells (cEB r1) 48 (0, 0))
  | .nde, v, w => ∃ r, v = .agg #[.int .u8 4, .string ⟨#[]⟩, .slice (some ⟨r, 0, none⟩) 3 3] ∧ g1 + 1 ≤ r ∧ w.heap[r]? = some (.cells (cEB r1) 48 (0, 0))
  | .non, _, _ => True
theorem RB.below {g1 r1 : Nat} {k : Kb} {v : Value} {w w' : World} (h : RB g1 r1 k v w) (hb : Below w.heap.size w w') : RB g1 r1 k v w' := by
  cases k with
  | val x => exact h
  | ent => obtain ⟨r, e, h0, h1⟩ := h; exact ⟨r, e, h0, (hb.block r (block_lt h1)).trans h1⟩
  | nde => obtain ⟨r, e, h0, h1⟩ := h; exact ⟨r, e, h0, (hb.block r (block_lt h1)).trans h1⟩
  | non => trivial
def kindsB (r1 : Nat) : List Kb := [.val (.agg #[.int .u8 1, .string ⟨#[104, 105]⟩, .slice none 0 0]), .val (.agg #[.string ⟨#[97]⟩, .int .u8 1, .string ⟨#[104, 105]⟩, .slice none 0 0]), .val (.agg #[.int .u8 4, .string ⟨#[]⟩, .slice (some ⟨r1, 0, none⟩) 3 3]), .val (.agg #[.string ⟨#[100]⟩, .int .u8 4, .string ⟨#[]⟩, .slice (some ⟨r1, 0, none⟩) 3 3]), .val (.agg #[.int .u8 1, .string ⟨#[]⟩, .slice none 0 0]), .val (.agg #[.string ⟨#[122]⟩, .int .u8 1, .string ⟨#[]⟩, .slice none 0 0]), .ent, .nde, .non]
set_option maxRecDepth 1000000 in
set_option maxRecDepth 100000 in
set_option maxHeartbeats 4000000 in
theorem barn_c (w : World) : Calls Tryd.prog 34 #[] w fun x W => Below w.heap.size w W ∧ ∃ v', x = .returned v' ∧ NdV W W.heap.size v' barnN := by
  go_enter Tryd.func34, Tryd.ntmps34
  obtain ⟨g0, hg0⟩ : ∃ g, g = w.heap.size := ⟨_, rfl⟩
  obtain ⟨w3, e3, hx0, hx1, hx2, hz3, hb3⟩ : ∃ w3, w3 = ((w.alloc (ndCells 0 ⟨#[]⟩ (.slice none 0 0))).alloc (.cells #[.string ⟨#[101]⟩, .int .u8 4, .string ⟨#[]⟩, .slice none 0 0, .string ⟨#[114, 117, 110]⟩, .int .u8 2, .string ⟨#[103, 111]⟩, .slice none 0 0, .string ⟨#[120]⟩, .int .u8 3, .string ⟨#[46, 46, 47, 97]⟩, .slice none 0 0] 48)).alloc (ndCells 4 ⟨#[]⟩ (.slice (some ⟨g0 + 1, 0, none⟩) 3 3)) ∧ w3.heap[g0]? = some (ndCells 0 ⟨#[]⟩ (.slice none 0 0)) ∧ w3.heap[g0 + 1]? = some (.cells #[.string ⟨#[101]⟩, .int .u8 4, .string ⟨#[]⟩, .slice none 0 0, .string ⟨#[114, 117, 110]⟩, .int .u8 2, .string ⟨#[103, 111]⟩, .slice none 0 0, .string ⟨#[120]⟩, .int .u8 3, .string ⟨#[46, 46, 47, 97]⟩, .slice none 0 0] 48 (0, 0)) ∧ w3.heap[g0 + 1 + 1]? = some (ndCells 4 ⟨#[]⟩ (.slice (some ⟨g0 + 1, 0, none⟩) 3 3)) ∧ w3.heap.size = g0 + 3 ∧ Below g0 w w3 := by
    generalize e1 : w.alloc (ndCells 0 ⟨#[]⟩ (.slice none 0 0)) = W1
    have b1 : Below g0 w W1 := by rw [← e1]; exact (Below.refl _ _).alloc (by omega) _
    have h1 : W1.heap[g0]? = some (ndCells 0 ⟨#[]⟩ (.slice none 0 0)) := by rw [← e1, hg0]; exact heap_alloc_new _ _
    have z1 : W1.heap.size = g0 + 1 := by rw [← e1, hg0]; simp
    refine ⟨_, rfl, ((old_block _ _ _ (by simp; omega)).trans (old_block _ _ _ (by omega))).trans h1, ?_, ?_, by simp [z1], (b1.alloc (by omega) _).alloc (by simp; omega) _⟩
    · rw [← z1]; exact heap_alloc2_old _ _ _
    · rw [← z1]; exact heap_alloc2_new _ _ _
  go_upto_region 2 with (fail)
  rw [← hg0]
  change Code.wp _ _ _ _ (((w.alloc (ndCells 0 ⟨#[]⟩ (.slice none 0 0))).alloc (.cells #[.string ⟨#[101]⟩, .int .u8 4, .string ⟨#[]⟩, .slice none 0 0, .string ⟨#[114, 117, 110]⟩, .int .u8 2, .string ⟨#[103, 111]⟩, .slice none 0 0, .string ⟨#[120]⟩, .int .u8 3, .string ⟨#[46, 46, 47, 97]⟩, .slice none 0 0] 48)).alloc (ndCells 4 ⟨#[]⟩ (.slice (some ⟨g0 + 1, 0, none⟩) 3 3)))
  rw [← e3]
  clear e3
  obtain ⟨g1, hg1⟩ : ∃ g, g = g0 + 1 + 1 := ⟨_, rfl⟩
  obtain ⟨r1, hr1⟩ : ∃ g, g = g0 + 1 := ⟨_, rfl⟩
  have hz4 : g1 + 1 = w3.heap.size := by omega
  have HLD := Lib.hid (fun (w' : World) (hC : KeepW w3 (g1 + 1) w') => show (loadVar 26 ⟨g1, 0, none⟩).run Tryd.prog w' = .ok (.agg #[.int .u8 4, .string ⟨#[]⟩, .slice (some ⟨r1, 0, none⟩) 3 3]) w' from load_node ((hC.1.block g1 (by omega)).trans (by rw [hg1, hr1]; exact hx2)))
  rw [← hg1, ← hr1]
  refine Inv.wp_region_invL (m := 8) (by kernel_rfl) (fun w' => KeepW w3 (g1 + 1) w') (fun k v w' => RB g1 r1 ((kindsB r1).getD k .non) v w') (Inv.formL_spec (by kernel_rfl)) (KeepW.start (by omega)).drew (Inv.Each.steps ?_ rfl) (fun f w5 K hC hR hK => ?_)
  · refine ⟨?_, ?_, ?_, ?_, ?_, ?_, ?_, ?_, ?_, trivial⟩
    · intro _
      refine Inv.StepW.of_call (f := 35) rfl (fun _ _ _ => rfl) (fun a w' hC hdep hfix => ?_)
      refine ⟨#[.string ⟨#[104, 105]⟩], w', (by simp only [execOp, resolve, List.map_toArray, List.map_cons, List.map_nil]; kernel_rfl), (file_lit ⟨#[104, 105]⟩ w').mono ?_⟩
      rintro e w2 ⟨rfl, hb2⟩
      exact ⟨_, rfl, hC.step hb2, rfl, fun _ _ h => RB.below h hb2⟩
    · intro _
      refine Inv.StepW.of_run rfl (fun _ _ _ => rfl) ⟨fun a w' hC hdep hfix => ?_⟩
      have e0 : a.eval (.tmp 10) = .agg #[.int .u8 1, .string ⟨#[104, 105]⟩, .slice none 0 0] := hdep 0 _ 10 rfl rfl (by kernel_rfl)
      refine ⟨.agg #[.string ⟨#[97]⟩, .int .u8 1, .string ⟨#[104, 105]⟩, .slice none 0 0], w', ?_, hC, rfl, fun _ _ h => h⟩
      simp only [execOp, List.map_toArray, List.map_cons, List.map_nil, e0]
      kernel_rfl
    · intro _
      refine Inv.StepW.of_run rfl (fun _ _ _ => rfl) ⟨fun a w' hC hdep hfix => ?_⟩
      refine ⟨.agg #[.int .u8 4, .string ⟨#[]⟩, .slice (some ⟨r1, 0, none⟩) 3 3], w', ?_, hC, rfl, fun _ _ h => h⟩
      have e2 : a.eval (.tmp 1) = .pointer (some ⟨g1, 0, none⟩) := (hfix 1 (by decide)).trans rfl
      simp only [execOp, e2, Instr.loadAt, Instr.sureAddr, Sem.run_bind, Sem.run_pure, Result.andThen_ok, HLD.out w' hC]
    · intro _
      refine Inv.StepW.of_run rfl (fun _ _ _ => rfl) ⟨fun a w' hC hdep hfix => ?_⟩
      have e0 : a.eval (.tmp 12) = .agg #[.int .u8 4, .string ⟨#[]⟩, .slice (some ⟨r1, 0, none⟩) 3 3] := hdep 2 _ 12 rfl rfl (by kernel_rfl)
      refine ⟨.agg #[.string ⟨#[100]⟩, .int .u8 4, .string ⟨#[]⟩, .slice (some ⟨r1, 0, none⟩) 3 3], w', ?_, hC, rfl, fun _ _ h => h⟩
      simp only [execOp, List.map_toArray, List.map_cons, List.map_nil, e0]
      kernel_rfl
    · intro _
      refine Inv.StepW.of_call (f := 35) rfl (fun _ _ _ => rfl) (fun a w' hC hdep hfix => ?_)
      refine ⟨#[.string ⟨#[]⟩], w', (by simp only [execOp, resolve, List.map_toArray, List.map_cons, List.map_nil]; kernel_rfl), (file_lit ⟨#[]⟩ w').mono ?_⟩
      rintro e w2 ⟨rfl, hb2⟩
      exact ⟨_, rfl, hC.step hb2, rfl, fun _ _ h => RB.below h hb2⟩
    · intro _
      refine Inv.StepW.of_run rfl (fun _ _ _ => rfl) ⟨fun a w' hC hdep hfix => ?_⟩
      have e0 : a.eval (.tmp 14) = .agg #[.int .u8 1, .string ⟨#[]⟩, .slice none 0 0] := hdep 4 _ 14 rfl rfl (by kernel_rfl)
      refine ⟨.agg #[.string ⟨#[122]⟩, .int .u8 1, .string ⟨#[]⟩, .slice none 0 0], w', ?_, hC, rfl, fun _ _ h => h⟩
      simp only [execOp, List.map_toArray, List.map_cons, List.map_nil, e0]
      kernel_rfl
    · intro _
      refine Inv.StepW.of_run rfl (fun _ _ _ => rfl) ⟨fun a w' hC hdep hfix => ?_⟩
      have e0 : a.eval (.tmp 11) = .agg #[.string ⟨#[97]⟩, .int .u8 1, .string ⟨#[104, 105]⟩, .slice none 0 0] := hdep 1 _ 11 rfl rfl (by kernel_rfl)
      have e1 : a.eval (.tmp 13) = .agg #[.string ⟨#[100]⟩, .int .u8 4, .string ⟨#[]⟩, .slice (some ⟨r1, 0, none⟩) 3 3] := hdep 3 _ 13 rfl rfl (by kernel_rfl)
      have e2 : a.eval (.tmp 15) = .agg #[.string ⟨#[122]⟩, .int .u8 1, .string ⟨#[]⟩, .slice none 0 0] := hdep 5 _ 15 rfl rfl (by kernel_rfl)
      have hba : Below w'.heap.size w' (w'.alloc (.cells (cEB r1) 48)) := (Below.refl _ _).alloc (Nat.le_refl _) _
      refine ⟨.slice (some ⟨w'.heap.size, 0, none⟩) 3 3, w'.alloc (.cells (cEB r1) 48), ?_, hC.alloc _, ⟨_, rfl, hC.2, heap_alloc_new w' _⟩, fun _ _ h => RB.below h hba⟩
      unfold execOp
      simp only [List.map_toArray, List.map_cons, List.map_nil, e0, e1, e2]
      kernel_rfl
    · intro _
      refine Inv.StepW.of_run rfl (fun _ _ _ => rfl) ⟨fun a w' hC hdep hfix => ?_⟩
      obtain ⟨r, e0, hr⟩ : ∃ r, a.eval (.tmp 16) = .slice (some ⟨r, 0, none⟩) 3 3 ∧ g1 + 1 ≤ r ∧ w'.heap[r]? = some (.cells (cEB r1) 48 (0, 0)) := hdep 6 _ 16 rfl rfl (by kernel_rfl)
      refine ⟨.agg #[.int .u8 4, .string ⟨#[]⟩, .slice (some ⟨r, 0, none⟩) 3 3], w', ?_, hC, ⟨r, rfl, hr⟩, fun _ _ h => h⟩
      simp only [execOp, List.map_toArray, List.map_cons, List.map_nil, e0]
      kernel_rfl
    · exact fun h => absurd rfl h
  obtain ⟨r, hv17, hrg, hr⟩ : RB g1 r1 .nde (f 17) w5 := hR 7 _ 17 rfl rfl
  simp only [Inv.dsts, List.filterMap_cons, List.filterMap_nil, List.foldl_cons, List.foldl_nil, Act.put, List.setIfInBounds_toArray, List.set_cons_succ, List.set_cons_zero]
  rw [hv17]
  have h0 := (hC.1.block g0 (by omega)).trans hx0
  have h1 := (hC.1.block (g0 + 1) (by omega)).trans hx1
  refine Inv.wpOp_of rfl rfl (wp_store_row 26 _ _ rfl g0 #[.int .u8 4, .string ⟨#[]⟩, .slice (some ⟨r, 0, none⟩) 3 3] rfl rfl 26 _ h0 (by kernel_rfl) rfl (by simp [Value.oneCell']) (hK _ _ ?_))
  have hB6 : Below g0 w (w5.setRow g0 #[.int .u8 4, .string ⟨#[]⟩, .slice (some ⟨r, 0, none⟩) 3 3]) := below_setRow (below_step hb3 (hC.1.mono (by omega)) (by omega)) (Nat.le_refl _) _
  have hes := barn_es (W := w5.setRow g0 #[.int .u8 4, .string ⟨#[]⟩, .slice (some ⟨r, 0, none⟩) 3 3]) (r1 := r1) (r := r) ((setRow_other _ _ _ _ (by omega)).trans (by rw [hr1]; exact h1)) ((setRow_other _ _ _ _ (by omega)).trans hr)
  have hrow : (w5.setRow g0 #[.int .u8 4, .string ⟨#[]⟩, .slice (some ⟨r, 0, none⟩) 3 3]).heap[g0]? = some (.cells #[.int .u8 4, .string ⟨#[]⟩, .slice (some ⟨r, 0, none⟩) 3 3] 26 (0, 0)) := setRow_heap _ _ _ _ _ _ h0
  have HH := Lib.hid (And.intro hB6 (And.intro hes hrow))
  generalize w5.setRow g0 #[.int .u8 4, .string ⟨#[]⟩, .slice (some ⟨r, 0, none⟩) 3 3] = w6 at *
  clear hB6 hes hrow hC hR hK hv17 hrg hr h0 h1 hx0 hx1 hx2
  have hi : (Tryd.prog.info? 26).map (·.size) = some 3 := by kernel_rfl
  go_wp2
  subst hg0
  exact bodyPost_ret (results_cell_row rfl _ _ _ _ _ _ _ rfl HH.out.2.2 Tryd.underlying26 (by rfl) hi) rfl ⟨HH.out.1, _, rfl, _, rfl, HH.out.2.1, by decide, by decide⟩
end Go.Proofs.YtmcafiihicanfaaDoor
