/- catalogue: a way of the drawn region of the reference's Same: field 4 differs. -/
import Derived.Test.YtcnedecmmplmoaaGreatDoorCmTYo
set_option linter.unusedVariables false
set_option linter.unusedSimpArgs false
namespace Go.Proofs.YtcnedecmmplmoaaGreatDoor
open Go Go.RowKit Go.BigFrame

set_option maxRecDepth 100000 in
set_option maxHeartbeats 4000000 in
theorem way18_4 (Q : Exit → Act → World → Prop) (wr : World) (ad ad' : Addr) (k : Nat) (l m : List Va) (ca cb : Nat) (x y : Va) (An Ac Bn Bc : Option Addr) (cn cc dn dc : Nat) (t2 t3 t4 t6 t7 t8 t9 t10 t11 t12 t13 t14 t15 t16 t17 t18 t19 t20 t21 t22 t23 t24 t25 t26 t27 t28 t29 t30 t31 t32 t33 t34 t35 t36 t37 t38 t39 t40 t41 t42 t43 t44 t45 t46 t47 t48 t49 t50 t51 t52 t53 t54 t55 t56 t57 t58 t59 t60 t61 t62 t63 t64 t65 t66 t67 t68 t69 t70 t71 t72 t73 t74 t75 t76 t77 t78 t79 t80 t81 : Value)
    (hi1 : (k : Int) < (l.length : Int)) (hi2 : (k : Int) < (m.length : Int)) (hi0 : (0 : Int) ≤ (k : Int)) (hla : l.length ≤ ca) (hlb : m.length ≤ cb) (HKK : ∀ w', (∃ n, w' = wr.drewN n) → Cells18 ad ad' k x y An Ac Bn Bc cn cc dn dc w') (n1 : (!(x.name.toList == y.name.toList)) = false) (n2 : (!(x.ver.toList == y.ver.toList)) = false) (n3 : (!(x.recipe.toList == y.recipe.toList)) = false) (HN1 : ∀ w', (∃ n, w' = wr.drewN n) → Calls Tryz.prog 27 #[.slice An x.needs.length cn, .slice Bn y.needs.length dn] w' fun e w'' => e = .returned (.bool false) ∧ ∃ n, w'' = wr.drewN n)
    (hP : ∀ c (a : Act) (d : Nat) (v : Value) (w : World), Q (.panic c) (a.put (some d) v) w → Q (.panic c) a w) (hQ : ∀ w', (∃ n, w' = wr.drewN n) → Q .normal { tmps := #[.slice (some ad) l.length ca, .slice (some ad') m.length cb, t2, t3, t4, .int .i64 (k : Int), t6, t7, t8, t9, t10, t11, t12, t13, t14, t15, t16, .slice (some ad) l.length ca, .int .i64 (k : Int), .pointer (some (ad.add (k * 5))), .pointer (some (ad.add (k * 5))), .string x.name, .slice (some ad') m.length cb, .int .i64 (k : Int), .pointer (some (ad'.add (k * 5))), .pointer (some (ad'.add (k * 5))), .string y.name, .bool false, .bool false, .slice (some ad) l.length ca, .int .i64 (k : Int), .pointer (some (ad.add (k * 5))), .pointer (some ⟨(ad.add (k * 5)).block, (ad.add (k * 5)).off + 1, none⟩), .string x.ver, .slice (some ad') m.length cb, .int .i64 (k : Int), .pointer (some (ad'.add (k * 5))), .pointer (some ⟨(ad'.add (k * 5)).block, (ad'.add (k * 5)).off + 1, none⟩), .string y.ver, .bool false, .bool false, .bool false, .slice (some ad) l.length ca, .int .i64 (k : Int), .pointer (some (ad.add (k * 5))), .pointer (some ⟨(ad.add (k * 5)).block, (ad.add (k * 5)).off + 4, none⟩), .string x.recipe, .slice (some ad') m.length cb, .int .i64 (k : Int), .pointer (some (ad'.add (k * 5))), .pointer (some ⟨(ad'.add (k * 5)).block, (ad'.add (k * 5)).off + 4, none⟩), .string y.recipe, .bool false, .bool false, .bool false, .slice (some ad) l.length ca, .int .i64 (k : Int), .pointer (some (ad.add (k * 5))), .pointer (some ⟨(ad.add (k * 5)).block, (ad.add (k * 5)).off + 2, none⟩), .slice An x.needs.length cn, .slice (some ad') m.length cb, .int .i64 (k : Int), .pointer (some (ad'.add (k * 5))), .pointer (some ⟨(ad'.add (k * 5)).block, (ad'.add (k * 5)).off + 2, none⟩), .slice Bn y.needs.length dn, .bool false, .bool true, .bool true, .bool true, undef, undef, undef, undef, undef, undef, undef, undef, undef, undef, undef, undef, .bool true], defers := [] } w') :
    (Code.region 6 ops18 true).wp Tryz.prog Q { tmps := #[.slice (some ad) l.length ca, .slice (some ad') m.length cb, t2, t3, t4, .int .i64 (k : Int), t6, t7, t8, t9, t10, t11, t12, t13, t14, t15, t16, t17, t18, t19, t20, t21, t22, t23, t24, t25, t26, t27, t28, t29, t30, t31, t32, t33, t34, t35, t36, t37, t38, t39, t40, t41, t42, t43, t44, t45, t46, t47, t48, t49, t50, t51, t52, t53, t54, t55, t56, t57, t58, t59, t60, t61, t62, t63, t64, t65, t66, t67, t68, t69, t70, t71, t72, t73, t74, t75, t76, t77, t78, t79, t80, t81], defers := [] } wr := by
  unfold Cells18 at HKK
  have hk0 : ∃ n, wr.drew = wr.drewN n := ⟨1, rfl⟩
  refine wp_region_held (S := fun w' => (w'.cell? ⟨(ad.add (k * 5)).block, (ad.add (k * 5)).off, (ad.add (k * 5)).3⟩ = some (.string x.name) ∧ w'.cell? ⟨(ad.add (k * 5)).block, (ad.add (k * 5)).off + 1, none⟩ = some (.string x.ver) ∧ w'.cell? ⟨(ad.add (k * 5)).block, (ad.add (k * 5)).off + 2, none⟩ = some (.slice An x.needs.length cn) ∧ w'.cell? ⟨(ad.add (k * 5)).block, (ad.add (k * 5)).off + 3, none⟩ = some (.slice Ac x.confs.length cc) ∧ w'.cell? ⟨(ad.add (k * 5)).block, (ad.add (k * 5)).off + 4, none⟩ = some (.string x.recipe)) ∧ w'.cell? ⟨(ad'.add (k * 5)).block, (ad'.add (k * 5)).off, (ad'.add (k * 5)).3⟩ = some (.string y.name) ∧ w'.cell? ⟨(ad'.add (k * 5)).block, (ad'.add (k * 5)).off + 1, none⟩ = some (.string y.ver) ∧ w'.cell? ⟨(ad'.add (k * 5)).block, (ad'.add (k * 5)).off + 2, none⟩ = some (.slice Bn y.needs.length dn) ∧ w'.cell? ⟨(ad'.add (k * 5)).block, (ad'.add (k * 5)).off + 3, none⟩ = some (.slice Bc y.confs.length dc) ∧ w'.cell? ⟨(ad'.add (k * 5)).block, (ad'.add (k * 5)).off + 4, none⟩ = some (.string y.recipe)) (by kernel_rfl) ?_
  have hS := HKK _ hk0
  change wpAnyH _ _ _ _ _ _ _ _ wr.drew
  refine wpAnyH_take (i := 0) (oi := o18_0) (by kernel_rfl) (by kernel_rfl) (by kernel_rfl) (by kernel_rfl) (fun c a w h => hP c a _ _ w h) (v := .slice (some ad) l.length ca) ?_ hS ?_
  · exact Or.inl ⟨by kernel_rfl, fun wx hSx => by (try dsimp only at hSx); unfold o18_0; go_simp⟩
  simp only [o18_0, Act.put, List.setIfInBounds_toArray, List.set_cons_zero, List.set_cons_succ]
  refine wpAnyH_take (i := 1) (oi := o18_1) (by kernel_rfl) (by kernel_rfl) (by kernel_rfl) (by kernel_rfl) (fun c a w h => hP c a _ _ w h) (v := .int .i64 (k : Int)) ?_ hS ?_
  · exact Or.inl ⟨by kernel_rfl, fun wx hSx => by (try dsimp only at hSx); unfold o18_1; go_simp⟩
  simp only [o18_1, Act.put, List.setIfInBounds_toArray, List.set_cons_zero, List.set_cons_succ]
  refine wpAnyH_take (i := 2) (oi := o18_2) (by kernel_rfl) (by kernel_rfl) (by kernel_rfl) (by kernel_rfl) (fun c a w h => hP c a _ _ w h) (v := .pointer (some (ad.add (k * 5)))) ?_ hS ?_
  · exact Or.inl ⟨by kernel_rfl, fun wx hSx => by (try dsimp only at hSx); unfold o18_2; go_simp⟩
  simp only [o18_2, Act.put, List.setIfInBounds_toArray, List.set_cons_zero, List.set_cons_succ]
  refine wpAnyH_take (i := 3) (oi := o18_3) (by kernel_rfl) (by kernel_rfl) (by kernel_rfl) (by kernel_rfl) (fun c a w h => hP c a _ _ w h) (v := .pointer (some (ad.add (k * 5)))) ?_ hS ?_
  · exact Or.inl ⟨by kernel_rfl, fun wx hSx => by (try dsimp only at hSx); unfold o18_3; go_simp⟩
  simp only [o18_3, Act.put, List.setIfInBounds_toArray, List.set_cons_zero, List.set_cons_succ]
  refine wpAnyH_take (i := 4) (oi := o18_4) (by kernel_rfl) (by kernel_rfl) (by kernel_rfl) (by kernel_rfl) (fun c a w h => hP c a _ _ w h) (v := .string x.name) ?_ hS ?_
  · exact Or.inl ⟨by kernel_rfl, fun wx hSx => by (try dsimp only at hSx); unfold o18_4; go_simp⟩
  simp only [o18_4, Act.put, List.setIfInBounds_toArray, List.set_cons_zero, List.set_cons_succ]
  refine wpAnyH_take (i := 5) (oi := o18_5) (by kernel_rfl) (by kernel_rfl) (by kernel_rfl) (by kernel_rfl) (fun c a w h => hP c a _ _ w h) (v := .slice (some ad') m.length cb) ?_ hS ?_
  · exact Or.inl ⟨by kernel_rfl, fun wx hSx => by (try dsimp only at hSx); unfold o18_5; go_simp⟩
  simp only [o18_5, Act.put, List.setIfInBounds_toArray, List.set_cons_zero, List.set_cons_succ]
  refine wpAnyH_take (i := 6) (oi := o18_6) (by kernel_rfl) (by kernel_rfl) (by kernel_rfl) (by kernel_rfl) (fun c a w h => hP c a _ _ w h) (v := .int .i64 (k : Int)) ?_ hS ?_
  · exact Or.inl ⟨by kernel_rfl, fun wx hSx => by (try dsimp only at hSx); unfold o18_6; go_simp⟩
  simp only [o18_6, Act.put, List.setIfInBounds_toArray, List.set_cons_zero, List.set_cons_succ]
  refine wpAnyH_take (i := 7) (oi := o18_7) (by kernel_rfl) (by kernel_rfl) (by kernel_rfl) (by kernel_rfl) (fun c a w h => hP c a _ _ w h) (v := .pointer (some (ad'.add (k * 5)))) ?_ hS ?_
  · exact Or.inl ⟨by kernel_rfl, fun wx hSx => by (try dsimp only at hSx); unfold o18_7; go_simp⟩
  simp only [o18_7, Act.put, List.setIfInBounds_toArray, List.set_cons_zero, List.set_cons_succ]
  refine wpAnyH_take (i := 8) (oi := o18_8) (by kernel_rfl) (by kernel_rfl) (by kernel_rfl) (by kernel_rfl) (fun c a w h => hP c a _ _ w h) (v := .pointer (some (ad'.add (k * 5)))) ?_ hS ?_
  · exact Or.inl ⟨by kernel_rfl, fun wx hSx => by (try dsimp only at hSx); unfold o18_8; go_simp⟩
  simp only [o18_8, Act.put, List.setIfInBounds_toArray, List.set_cons_zero, List.set_cons_succ]
  refine wpAnyH_take (i := 9) (oi := o18_9) (by kernel_rfl) (by kernel_rfl) (by kernel_rfl) (by kernel_rfl) (fun c a w h => hP c a _ _ w h) (v := .string y.name) ?_ hS ?_
  · exact Or.inl ⟨by kernel_rfl, fun wx hSx => by (try dsimp only at hSx); unfold o18_9; go_simp⟩
  simp only [o18_9, Act.put, List.setIfInBounds_toArray, List.set_cons_zero, List.set_cons_succ]
  refine wpAnyH_take (i := 10) (oi := o18_10) (by kernel_rfl) (by kernel_rfl) (by kernel_rfl) (by kernel_rfl) (fun c a w h => hP c a _ _ w h) (v := .bool false) ?_ hS ?_
  · exact Or.inl ⟨by kernel_rfl, fun wx hSx => by (try dsimp only at hSx); unfold o18_10; go_simp⟩
  simp only [o18_10, Act.put, List.setIfInBounds_toArray, List.set_cons_zero, List.set_cons_succ]
  refine wpAnyH_take (i := 11) (oi := o18_11) (by kernel_rfl) (by kernel_rfl) (by kernel_rfl) (by kernel_rfl) (fun c a w h => hP c a _ _ w h) (v := .bool false) ?_ hS ?_
  · exact Or.inl ⟨by kernel_rfl, fun wx hSx => by (try dsimp only at hSx); unfold o18_11; go_simp⟩
  simp only [o18_11, Act.put, List.setIfInBounds_toArray, List.set_cons_zero, List.set_cons_succ]
  refine wpAnyH_take (i := 12) (oi := o18_12) (by kernel_rfl) (by kernel_rfl) (by kernel_rfl) (by kernel_rfl) (fun c a w h => hP c a _ _ w h) (v := .slice (some ad) l.length ca) ?_ hS ?_
  · exact Or.inl ⟨by kernel_rfl, fun wx hSx => by (try dsimp only at hSx); unfold o18_12; go_simp⟩
  simp only [o18_12, Act.put, List.setIfInBounds_toArray, List.set_cons_zero, List.set_cons_succ]
  refine wpAnyH_take (i := 13) (oi := o18_13) (by kernel_rfl) (by kernel_rfl) (by kernel_rfl) (by kernel_rfl) (fun c a w h => hP c a _ _ w h) (v := .int .i64 (k : Int)) ?_ hS ?_
  · exact Or.inl ⟨by kernel_rfl, fun wx hSx => by (try dsimp only at hSx); unfold o18_13; go_simp⟩
  simp only [o18_13, Act.put, List.setIfInBounds_toArray, List.set_cons_zero, List.set_cons_succ]
  refine wpAnyH_take (i := 14) (oi := o18_14) (by kernel_rfl) (by kernel_rfl) (by kernel_rfl) (by kernel_rfl) (fun c a w h => hP c a _ _ w h) (v := .pointer (some (ad.add (k * 5)))) ?_ hS ?_
  · exact Or.inl ⟨by kernel_rfl, fun wx hSx => by (try dsimp only at hSx); unfold o18_14; go_simp⟩
  simp only [o18_14, Act.put, List.setIfInBounds_toArray, List.set_cons_zero, List.set_cons_succ]
  refine wpAnyH_take (i := 15) (oi := o18_15) (by kernel_rfl) (by kernel_rfl) (by kernel_rfl) (by kernel_rfl) (fun c a w h => hP c a _ _ w h) (v := .pointer (some ⟨(ad.add (k * 5)).block, (ad.add (k * 5)).off + 1, none⟩)) ?_ hS ?_
  · exact Or.inl ⟨by kernel_rfl, fun wx hSx => by (try dsimp only at hSx); unfold o18_15; go_simp⟩
  simp only [o18_15, Act.put, List.setIfInBounds_toArray, List.set_cons_zero, List.set_cons_succ]
  refine wpAnyH_take (i := 16) (oi := o18_16) (by kernel_rfl) (by kernel_rfl) (by kernel_rfl) (by kernel_rfl) (fun c a w h => hP c a _ _ w h) (v := .string x.ver) ?_ hS ?_
  · exact Or.inl ⟨by kernel_rfl, fun wx hSx => by (try dsimp only at hSx); unfold o18_16; go_simp⟩
  simp only [o18_16, Act.put, List.setIfInBounds_toArray, List.set_cons_zero, List.set_cons_succ]
  refine wpAnyH_take (i := 17) (oi := o18_17) (by kernel_rfl) (by kernel_rfl) (by kernel_rfl) (by kernel_rfl) (fun c a w h => hP c a _ _ w h) (v := .slice (some ad') m.length cb) ?_ hS ?_
  · exact Or.inl ⟨by kernel_rfl, fun wx hSx => by (try dsimp only at hSx); unfold o18_17; go_simp⟩
  simp only [o18_17, Act.put, List.setIfInBounds_toArray, List.set_cons_zero, List.set_cons_succ]
  refine wpAnyH_take (i := 18) (oi := o18_18) (by kernel_rfl) (by kernel_rfl) (by kernel_rfl) (by kernel_rfl) (fun c a w h => hP c a _ _ w h) (v := .int .i64 (k : Int)) ?_ hS ?_
  · exact Or.inl ⟨by kernel_rfl, fun wx hSx => by (try dsimp only at hSx); unfold o18_18; go_simp⟩
  simp only [o18_18, Act.put, List.setIfInBounds_toArray, List.set_cons_zero, List.set_cons_succ]
  refine wpAnyH_take (i := 19) (oi := o18_19) (by kernel_rfl) (by kernel_rfl) (by kernel_rfl) (by kernel_rfl) (fun c a w h => hP c a _ _ w h) (v := .pointer (some (ad'.add (k * 5)))) ?_ hS ?_
  · exact Or.inl ⟨by kernel_rfl, fun wx hSx => by (try dsimp only at hSx); unfold o18_19; go_simp⟩
  simp only [o18_19, Act.put, List.setIfInBounds_toArray, List.set_cons_zero, List.set_cons_succ]
  refine wpAnyH_take (i := 20) (oi := o18_20) (by kernel_rfl) (by kernel_rfl) (by kernel_rfl) (by kernel_rfl) (fun c a w h => hP c a _ _ w h) (v := .pointer (some ⟨(ad'.add (k * 5)).block, (ad'.add (k * 5)).off + 1, none⟩)) ?_ hS ?_
  · exact Or.inl ⟨by kernel_rfl, fun wx hSx => by (try dsimp only at hSx); unfold o18_20; go_simp⟩
  simp only [o18_20, Act.put, List.setIfInBounds_toArray, List.set_cons_zero, List.set_cons_succ]
  refine wpAnyH_take (i := 21) (oi := o18_21) (by kernel_rfl) (by kernel_rfl) (by kernel_rfl) (by kernel_rfl) (fun c a w h => hP c a _ _ w h) (v := .string y.ver) ?_ hS ?_
  · exact Or.inl ⟨by kernel_rfl, fun wx hSx => by (try dsimp only at hSx); unfold o18_21; go_simp⟩
  simp only [o18_21, Act.put, List.setIfInBounds_toArray, List.set_cons_zero, List.set_cons_succ]
  refine wpAnyH_take (i := 22) (oi := o18_22) (by kernel_rfl) (by kernel_rfl) (by kernel_rfl) (by kernel_rfl) (fun c a w h => hP c a _ _ w h) (v := .bool false) ?_ hS ?_
  · exact Or.inl ⟨by kernel_rfl, fun wx hSx => by (try dsimp only at hSx); unfold o18_22; go_simp⟩
  simp only [o18_22, Act.put, List.setIfInBounds_toArray, List.set_cons_zero, List.set_cons_succ]
  refine wpAnyH_take (i := 23) (oi := o18_23) (by kernel_rfl) (by kernel_rfl) (by kernel_rfl) (by kernel_rfl) (fun c a w h => hP c a _ _ w h) (v := .bool false) ?_ hS ?_
  · exact Or.inl ⟨by kernel_rfl, fun wx hSx => by (try dsimp only at hSx); unfold o18_23; go_simp⟩
  simp only [o18_23, Act.put, List.setIfInBounds_toArray, List.set_cons_zero, List.set_cons_succ]
  refine wpAnyH_take (i := 24) (oi := o18_24) (by kernel_rfl) (by kernel_rfl) (by kernel_rfl) (by kernel_rfl) (fun c a w h => hP c a _ _ w h) (v := .bool false) ?_ hS ?_
  · exact Or.inl ⟨by kernel_rfl, fun wx hSx => by (try dsimp only at hSx); unfold o18_24; go_simp⟩
  simp only [o18_24, Act.put, List.setIfInBounds_toArray, List.set_cons_zero, List.set_cons_succ]
  refine wpAnyH_take (i := 25) (oi := o18_25) (by kernel_rfl) (by kernel_rfl) (by kernel_rfl) (by kernel_rfl) (fun c a w h => hP c a _ _ w h) (v := .slice (some ad) l.length ca) ?_ hS ?_
  · exact Or.inl ⟨by kernel_rfl, fun wx hSx => by (try dsimp only at hSx); unfold o18_25; go_simp⟩
  simp only [o18_25, Act.put, List.setIfInBounds_toArray, List.set_cons_zero, List.set_cons_succ]
  refine wpAnyH_take (i := 26) (oi := o18_26) (by kernel_rfl) (by kernel_rfl) (by kernel_rfl) (by kernel_rfl) (fun c a w h => hP c a _ _ w h) (v := .int .i64 (k : Int)) ?_ hS ?_
  · exact Or.inl ⟨by kernel_rfl, fun wx hSx => by (try dsimp only at hSx); unfold o18_26; go_simp⟩
  simp only [o18_26, Act.put, List.setIfInBounds_toArray, List.set_cons_zero, List.set_cons_succ]
  refine wpAnyH_take (i := 27) (oi := o18_27) (by kernel_rfl) (by kernel_rfl) (by kernel_rfl) (by kernel_rfl) (fun c a w h => hP c a _ _ w h) (v := .pointer (some (ad.add (k * 5)))) ?_ hS ?_
  · exact Or.inl ⟨by kernel_rfl, fun wx hSx => by (try dsimp only at hSx); unfold o18_27; go_simp⟩
  simp only [o18_27, Act.put, List.setIfInBounds_toArray, List.set_cons_zero, List.set_cons_succ]
  refine wpAnyH_take (i := 28) (oi := o18_28) (by kernel_rfl) (by kernel_rfl) (by kernel_rfl) (by kernel_rfl) (fun c a w h => hP c a _ _ w h) (v := .pointer (some ⟨(ad.add (k * 5)).block, (ad.add (k * 5)).off + 4, none⟩)) ?_ hS ?_
  · exact Or.inl ⟨by kernel_rfl, fun wx hSx => by (try dsimp only at hSx); unfold o18_28; go_simp⟩
  simp only [o18_28, Act.put, List.setIfInBounds_toArray, List.set_cons_zero, List.set_cons_succ]
  refine wpAnyH_take (i := 29) (oi := o18_29) (by kernel_rfl) (by kernel_rfl) (by kernel_rfl) (by kernel_rfl) (fun c a w h => hP c a _ _ w h) (v := .string x.recipe) ?_ hS ?_
  · exact Or.inl ⟨by kernel_rfl, fun wx hSx => by (try dsimp only at hSx); unfold o18_29; go_simp⟩
  simp only [o18_29, Act.put, List.setIfInBounds_toArray, List.set_cons_zero, List.set_cons_succ]
  refine wpAnyH_take (i := 30) (oi := o18_30) (by kernel_rfl) (by kernel_rfl) (by kernel_rfl) (by kernel_rfl) (fun c a w h => hP c a _ _ w h) (v := .slice (some ad') m.length cb) ?_ hS ?_
  · exact Or.inl ⟨by kernel_rfl, fun wx hSx => by (try dsimp only at hSx); unfold o18_30; go_simp⟩
  simp only [o18_30, Act.put, List.setIfInBounds_toArray, List.set_cons_zero, List.set_cons_succ]
  refine wpAnyH_take (i := 31) (oi := o18_31) (by kernel_rfl) (by kernel_rfl) (by kernel_rfl) (by kernel_rfl) (fun c a w h => hP c a _ _ w h) (v := .int .i64 (k : Int)) ?_ hS ?_
  · exact Or.inl ⟨by kernel_rfl, fun wx hSx => by (try dsimp only at hSx); unfold o18_31; go_simp⟩
  simp only [o18_31, Act.put, List.setIfInBounds_toArray, List.set_cons_zero, List.set_cons_succ]
  refine wpAnyH_take (i := 32) (oi := o18_32) (by kernel_rfl) (by kernel_rfl) (by kernel_rfl) (by kernel_rfl) (fun c a w h => hP c a _ _ w h) (v := .pointer (some (ad'.add (k * 5)))) ?_ hS ?_
  · exact Or.inl ⟨by kernel_rfl, fun wx hSx => by (try dsimp only at hSx); unfold o18_32; go_simp⟩
  simp only [o18_32, Act.put, List.setIfInBounds_toArray, List.set_cons_zero, List.set_cons_succ]
  refine wpAnyH_take (i := 33) (oi := o18_33) (by kernel_rfl) (by kernel_rfl) (by kernel_rfl) (by kernel_rfl) (fun c a w h => hP c a _ _ w h) (v := .pointer (some ⟨(ad'.add (k * 5)).block, (ad'.add (k * 5)).off + 4, none⟩)) ?_ hS ?_
  · exact Or.inl ⟨by kernel_rfl, fun wx hSx => by (try dsimp only at hSx); unfold o18_33; go_simp⟩
  simp only [o18_33, Act.put, List.setIfInBounds_toArray, List.set_cons_zero, List.set_cons_succ]
  refine wpAnyH_take (i := 34) (oi := o18_34) (by kernel_rfl) (by kernel_rfl) (by kernel_rfl) (by kernel_rfl) (fun c a w h => hP c a _ _ w h) (v := .string y.recipe) ?_ hS ?_
  · exact Or.inl ⟨by kernel_rfl, fun wx hSx => by (try dsimp only at hSx); unfold o18_34; go_simp⟩
  simp only [o18_34, Act.put, List.setIfInBounds_toArray, List.set_cons_zero, List.set_cons_succ]
  refine wpAnyH_take (i := 35) (oi := o18_35) (by kernel_rfl) (by kernel_rfl) (by kernel_rfl) (by kernel_rfl) (fun c a w h => hP c a _ _ w h) (v := .bool false) ?_ hS ?_
  · exact Or.inl ⟨by kernel_rfl, fun wx hSx => by (try dsimp only at hSx); unfold o18_35; go_simp⟩
  simp only [o18_35, Act.put, List.setIfInBounds_toArray, List.set_cons_zero, List.set_cons_succ]
  refine wpAnyH_take (i := 36) (oi := o18_36) (by kernel_rfl) (by kernel_rfl) (by kernel_rfl) (by kernel_rfl) (fun c a w h => hP c a _ _ w h) (v := .bool false) ?_ hS ?_
  · exact Or.inl ⟨by kernel_rfl, fun wx hSx => by (try dsimp only at hSx); unfold o18_36; go_simp⟩
  simp only [o18_36, Act.put, List.setIfInBounds_toArray, List.set_cons_zero, List.set_cons_succ]
  refine wpAnyH_take (i := 37) (oi := o18_37) (by kernel_rfl) (by kernel_rfl) (by kernel_rfl) (by kernel_rfl) (fun c a w h => hP c a _ _ w h) (v := .bool false) ?_ hS ?_
  · exact Or.inl ⟨by kernel_rfl, fun wx hSx => by (try dsimp only at hSx); unfold o18_37; go_simp⟩
  simp only [o18_37, Act.put, List.setIfInBounds_toArray, List.set_cons_zero, List.set_cons_succ]
  refine wpAnyH_take (i := 38) (oi := o18_38) (by kernel_rfl) (by kernel_rfl) (by kernel_rfl) (by kernel_rfl) (fun c a w h => hP c a _ _ w h) (v := .slice (some ad) l.length ca) ?_ hS ?_
  · exact Or.inl ⟨by kernel_rfl, fun wx hSx => by (try dsimp only at hSx); unfold o18_38; go_simp⟩
  simp only [o18_38, Act.put, List.setIfInBounds_toArray, List.set_cons_zero, List.set_cons_succ]
  refine wpAnyH_take (i := 39) (oi := o18_39) (by kernel_rfl) (by kernel_rfl) (by kernel_rfl) (by kernel_rfl) (fun c a w h => hP c a _ _ w h) (v := .int .i64 (k : Int)) ?_ hS ?_
  · exact Or.inl ⟨by kernel_rfl, fun wx hSx => by (try dsimp only at hSx); unfold o18_39; go_simp⟩
  simp only [o18_39, Act.put, List.setIfInBounds_toArray, List.set_cons_zero, List.set_cons_succ]
  refine wpAnyH_take (i := 40) (oi := o18_40) (by kernel_rfl) (by kernel_rfl) (by kernel_rfl) (by kernel_rfl) (fun c a w h => hP c a _ _ w h) (v := .pointer (some (ad.add (k * 5)))) ?_ hS ?_
  · exact Or.inl ⟨by kernel_rfl, fun wx hSx => by (try dsimp only at hSx); unfold o18_40; go_simp⟩
  simp only [o18_40, Act.put, List.setIfInBounds_toArray, List.set_cons_zero, List.set_cons_succ]
  refine wpAnyH_take (i := 41) (oi := o18_41) (by kernel_rfl) (by kernel_rfl) (by kernel_rfl) (by kernel_rfl) (fun c a w h => hP c a _ _ w h) (v := .pointer (some ⟨(ad.add (k * 5)).block, (ad.add (k * 5)).off + 2, none⟩)) ?_ hS ?_
  · exact Or.inl ⟨by kernel_rfl, fun wx hSx => by (try dsimp only at hSx); unfold o18_41; go_simp⟩
  simp only [o18_41, Act.put, List.setIfInBounds_toArray, List.set_cons_zero, List.set_cons_succ]
  refine wpAnyH_take (i := 42) (oi := o18_42) (by kernel_rfl) (by kernel_rfl) (by kernel_rfl) (by kernel_rfl) (fun c a w h => hP c a _ _ w h) (v := .slice An x.needs.length cn) ?_ hS ?_
  · exact Or.inl ⟨by kernel_rfl, fun wx hSx => by (try dsimp only at hSx); unfold o18_42; go_simp⟩
  simp only [o18_42, Act.put, List.setIfInBounds_toArray, List.set_cons_zero, List.set_cons_succ]
  refine wpAnyH_take (i := 43) (oi := o18_43) (by kernel_rfl) (by kernel_rfl) (by kernel_rfl) (by kernel_rfl) (fun c a w h => hP c a _ _ w h) (v := .slice (some ad') m.length cb) ?_ hS ?_
  · exact Or.inl ⟨by kernel_rfl, fun wx hSx => by (try dsimp only at hSx); unfold o18_43; go_simp⟩
  simp only [o18_43, Act.put, List.setIfInBounds_toArray, List.set_cons_zero, List.set_cons_succ]
  refine wpAnyH_take (i := 44) (oi := o18_44) (by kernel_rfl) (by kernel_rfl) (by kernel_rfl) (by kernel_rfl) (fun c a w h => hP c a _ _ w h) (v := .int .i64 (k : Int)) ?_ hS ?_
  · exact Or.inl ⟨by kernel_rfl, fun wx hSx => by (try dsimp only at hSx); unfold o18_44; go_simp⟩
  simp only [o18_44, Act.put, List.setIfInBounds_toArray, List.set_cons_zero, List.set_cons_succ]
  refine wpAnyH_take (i := 45) (oi := o18_45) (by kernel_rfl) (by kernel_rfl) (by kernel_rfl) (by kernel_rfl) (fun c a w h => hP c a _ _ w h) (v := .pointer (some (ad'.add (k * 5)))) ?_ hS ?_
  · exact Or.inl ⟨by kernel_rfl, fun wx hSx => by (try dsimp only at hSx); unfold o18_45; go_simp⟩
  simp only [o18_45, Act.put, List.setIfInBounds_toArray, List.set_cons_zero, List.set_cons_succ]
  refine wpAnyH_take (i := 46) (oi := o18_46) (by kernel_rfl) (by kernel_rfl) (by kernel_rfl) (by kernel_rfl) (fun c a w h => hP c a _ _ w h) (v := .pointer (some ⟨(ad'.add (k * 5)).block, (ad'.add (k * 5)).off + 2, none⟩)) ?_ hS ?_
  · exact Or.inl ⟨by kernel_rfl, fun wx hSx => by (try dsimp only at hSx); unfold o18_46; go_simp⟩
  simp only [o18_46, Act.put, List.setIfInBounds_toArray, List.set_cons_zero, List.set_cons_succ]
  refine wpAnyH_take (i := 47) (oi := o18_47) (by kernel_rfl) (by kernel_rfl) (by kernel_rfl) (by kernel_rfl) (fun c a w h => hP c a _ _ w h) (v := .slice Bn y.needs.length dn) ?_ hS ?_
  · exact Or.inl ⟨by kernel_rfl, fun wx hSx => by (try dsimp only at hSx); unfold o18_47; go_simp⟩
  simp only [o18_47, Act.put, List.setIfInBounds_toArray, List.set_cons_zero, List.set_cons_succ]
  refine wpAnyH_ready (rs := [48]) (by kernel_rfl) (by simp) ?_
  refine AllReadyH.cons (o := o18_48) (by kernel_rfl) (fun K hK => ?_) AllReadyH.nil
  rw [if_pos (by kernel_rfl)]
  unfold o18_48 at *
  go_simp
  refine (HN1 _ hk0).mono ?_
  rintro e W4 ⟨rfl, hk4⟩
  dsimp only
  refine hK.out _ _ (HKK _ hk4) (fun hS4 => ?_)
  clear hK K hS
  try simp only [Act.put, List.setIfInBounds_toArray, List.set_cons_zero, List.set_cons_succ]
  refine wpAnyH_take (i := 49) (oi := o18_49) (by kernel_rfl) (by kernel_rfl) (by kernel_rfl) (by kernel_rfl) (fun c a w h => hP c a _ _ w h) (v := .bool true) ?_ hS4 ?_
  · exact Or.inl ⟨by kernel_rfl, fun wx hSx => by (try dsimp only at hSx); unfold o18_49; go_simp⟩
  simp only [o18_49, Act.put, List.setIfInBounds_toArray, List.set_cons_zero, List.set_cons_succ]
  refine wpAnyH_take (i := 50) (oi := o18_50) (by kernel_rfl) (by kernel_rfl) (by kernel_rfl) (by kernel_rfl) (fun c a w h => hP c a _ _ w h) (v := .bool true) ?_ hS4 ?_
  · exact Or.inl ⟨by kernel_rfl, fun wx hSx => by (try dsimp only at hSx); unfold o18_50; go_simp⟩
  simp only [o18_50, Act.put, List.setIfInBounds_toArray, List.set_cons_zero, List.set_cons_succ]
  refine wpAnyH_take (i := 51) (oi := o18_51) (by kernel_rfl) (by kernel_rfl) (by kernel_rfl) (by kernel_rfl) (fun c a w h => hP c a _ _ w h) (v := .bool true) ?_ hS4 ?_
  · exact Or.inl ⟨by kernel_rfl, fun wx hSx => by (try dsimp only at hSx); unfold o18_51; go_simp⟩
  simp only [o18_51, Act.put, List.setIfInBounds_toArray, List.set_cons_zero, List.set_cons_succ]
  refine wpAnyH_take (i := 52) (oi := o18_52) (by kernel_rfl) (by kernel_rfl) (by kernel_rfl) (by kernel_rfl) (fun c a w h => hP c a _ _ w h) (v := undef) ?_ hS4 ?_
  · exact Or.inr ⟨by kernel_rfl, rfl⟩
  simp only [o18_52, Act.put, List.setIfInBounds_toArray, List.set_cons_zero, List.set_cons_succ]
  refine wpAnyH_take (i := 53) (oi := o18_53) (by kernel_rfl) (by kernel_rfl) (by kernel_rfl) (by kernel_rfl) (fun c a w h => hP c a _ _ w h) (v := undef) ?_ hS4 ?_
  · exact Or.inr ⟨by kernel_rfl, rfl⟩
  simp only [o18_53, Act.put, List.setIfInBounds_toArray, List.set_cons_zero, List.set_cons_succ]
  refine wpAnyH_take (i := 54) (oi := o18_54) (by kernel_rfl) (by kernel_rfl) (by kernel_rfl) (by kernel_rfl) (fun c a w h => hP c a _ _ w h) (v := undef) ?_ hS4 ?_
  · exact Or.inr ⟨by kernel_rfl, rfl⟩
  simp only [o18_54, Act.put, List.setIfInBounds_toArray, List.set_cons_zero, List.set_cons_succ]
  refine wpAnyH_take (i := 55) (oi := o18_55) (by kernel_rfl) (by kernel_rfl) (by kernel_rfl) (by kernel_rfl) (fun c a w h => hP c a _ _ w h) (v := undef) ?_ hS4 ?_
  · exact Or.inr ⟨by kernel_rfl, rfl⟩
  simp only [o18_55, Act.put, List.setIfInBounds_toArray, List.set_cons_zero, List.set_cons_succ]
  refine wpAnyH_take (i := 56) (oi := o18_56) (by kernel_rfl) (by kernel_rfl) (by kernel_rfl) (by kernel_rfl) (fun c a w h => hP c a _ _ w h) (v := undef) ?_ hS4 ?_
  · exact Or.inr ⟨by kernel_rfl, rfl⟩
  simp only [o18_56, Act.put, List.setIfInBounds_toArray, List.set_cons_zero, List.set_cons_succ]
  refine wpAnyH_take (i := 57) (oi := o18_57) (by kernel_rfl) (by kernel_rfl) (by kernel_rfl) (by kernel_rfl) (fun c a w h => hP c a _ _ w h) (v := undef) ?_ hS4 ?_
  · exact Or.inr ⟨by kernel_rfl, rfl⟩
  simp only [o18_57, Act.put, List.setIfInBounds_toArray, List.set_cons_zero, List.set_cons_succ]
  refine wpAnyH_take (i := 58) (oi := o18_58) (by kernel_rfl) (by kernel_rfl) (by kernel_rfl) (by kernel_rfl) (fun c a w h => hP c a _ _ w h) (v := undef) ?_ hS4 ?_
  · exact Or.inr ⟨by kernel_rfl, rfl⟩
  simp only [o18_58, Act.put, List.setIfInBounds_toArray, List.set_cons_zero, List.set_cons_succ]
  refine wpAnyH_take (i := 59) (oi := o18_59) (by kernel_rfl) (by kernel_rfl) (by kernel_rfl) (by kernel_rfl) (fun c a w h => hP c a _ _ w h) (v := undef) ?_ hS4 ?_
  · exact Or.inr ⟨by kernel_rfl, rfl⟩
  simp only [o18_59, Act.put, List.setIfInBounds_toArray, List.set_cons_zero, List.set_cons_succ]
  refine wpAnyH_take (i := 60) (oi := o18_60) (by kernel_rfl) (by kernel_rfl) (by kernel_rfl) (by kernel_rfl) (fun c a w h => hP c a _ _ w h) (v := undef) ?_ hS4 ?_
  · exact Or.inr ⟨by kernel_rfl, rfl⟩
  simp only [o18_60, Act.put, List.setIfInBounds_toArray, List.set_cons_zero, List.set_cons_succ]
  refine wpAnyH_take (i := 61) (oi := o18_61) (by kernel_rfl) (by kernel_rfl) (by kernel_rfl) (by kernel_rfl) (fun c a w h => hP c a _ _ w h) (v := undef) ?_ hS4 ?_
  · exact Or.inr ⟨by kernel_rfl, rfl⟩
  simp only [o18_61, Act.put, List.setIfInBounds_toArray, List.set_cons_zero, List.set_cons_succ]
  refine wpAnyH_take (i := 62) (oi := o18_62) (by kernel_rfl) (by kernel_rfl) (by kernel_rfl) (by kernel_rfl) (fun c a w h => hP c a _ _ w h) (v := undef) ?_ hS4 ?_
  · exact Or.inr ⟨by kernel_rfl, rfl⟩
  simp only [o18_62, Act.put, List.setIfInBounds_toArray, List.set_cons_zero, List.set_cons_succ]
  refine wpAnyH_take (i := 63) (oi := o18_63) (by kernel_rfl) (by kernel_rfl) (by kernel_rfl) (by kernel_rfl) (fun c a w h => hP c a _ _ w h) (v := undef) ?_ hS4 ?_
  · exact Or.inr ⟨by kernel_rfl, rfl⟩
  simp only [o18_63, Act.put, List.setIfInBounds_toArray, List.set_cons_zero, List.set_cons_succ]
  refine wpAnyH_take (i := 64) (oi := o18_64) (by kernel_rfl) (by kernel_rfl) (by kernel_rfl) (by kernel_rfl) (fun c a w h => hP c a _ _ w h) (v := .bool true) ?_ hS4 ?_
  · exact Or.inl ⟨by kernel_rfl, fun wx hSx => by (try dsimp only at hSx); unfold o18_64; go_simp⟩
  simp only [o18_64, Act.put, List.setIfInBounds_toArray, List.set_cons_zero, List.set_cons_succ]
  refine wpAnyH_done (by kernel_rfl) ?_ _
  all_goals exact hQ _ hk4
end Go.Proofs.YtcnedecmmplmoaaGreatDoor
