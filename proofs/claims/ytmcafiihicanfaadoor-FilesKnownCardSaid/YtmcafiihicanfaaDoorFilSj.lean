/- files: the reference's paths. -/
import Derived.Test.YtmcafiihicanfaaDoorFilSi
set_option linter.unusedVariables false
set_option linter.unusedSimpArgs false
namespace Go.Proofs.YtmcafiihicanfaaDoor
open Go Go.RowKit Go.BigFrame
open Fil (Es Nd Sp)

/-- A path below an entry. -/
def pjS (nm k : ByteArray) : ByteArray := if k.toList.isEmpty then nm else nm ++ ⟨#[47]⟩ ++ k
def pathsE : Es → List ByteArray
  | .nil => []
  | .cons nm _ _ s nx => (⟨#[]⟩ :: pathsE s).map (pjS nm) ++ pathsE nx
def pathsG (nd : Nd) : List ByteArray := ⟨#[]⟩ :: pathsE nd.es
theorem pathsE_len : ∀ es : Es, (pathsE es).length = es.count
  | .nil => rfl
  | .cons _ _ _ s nx => by simp only [pathsE, List.length_append, List.length_map, List.length_cons, pathsE_len s, pathsE_len nx, Es.count]; omega
theorem pjS_size (nm k : ByteArray) : (pjS nm k).size ≤ nm.size + 1 + k.size := by
  unfold pjS
  split
  · omega
  · simp only [ByteArray.size_append]
    show nm.size + 1 + k.size ≤ _
    omega
theorem pathsE_size : ∀ (es : Es) (x : ByteArray), x ∈ pathsE es → x.size ≤ weiE es
  | .nil, _, h => by cases h
  | .cons nm _ d s nx, x, h => by
    simp only [pathsE, List.mem_append, List.mem_map] at h
    simp only [weiE]
    rcases h with ⟨y, hy, rfl⟩ | h
    · have h1 := pjS_size nm y
      rcases List.mem_cons.1 hy with rfl | hy
      · have : (⟨#[]⟩ : ByteArray).size = 0 := rfl
        omega
      · have h2 := pathsE_size s y hy
        omega
    · have := pathsE_size nx x h
      omega
theorem wei_kid : ∀ (es : Es) (i : Nat), i < es.len → weiE (kidE es i).es ≤ weiE es ∧ (nmE es i).size + weiE (kidE es i).es + 1 ≤ weiE es
  | .nil, _, h => by simp [Es.len] at h
  | .cons nm k d s nx, 0, _ => by simp only [kidE, nmE, weiE]; omega
  | .cons nm k d s nx, i + 1, h => by have := wei_kid nx i (by simp [Es.len] at h; omega); simp only [kidE, nmE, weiE] at this ⊢; omega
theorem drop_paths {es : Es} {i : Nat} (h : i < es.len) : pathsE (dropE i es) = (pathsG (kidE es i)).map (pjS (nmE es i)) ++ pathsE (dropE (i + 1) es) := by
  obtain ⟨k, d, s, h1, h2⟩ := drop_headN es i h
  rw [h1, h2]
  rfl
/-- What stands between two rounds. -/
structure PhAt (w W0 : World) (all : List ByteArray) (es : Es) (i : Nat) (done : List ByteArray) (v : Value) (W : World) : Prop where
  own : W.ownsRow W0.heap.size 9 1 v done.length (done.map Value.string)
  keep : KeepW W0 W0.heap.size W
  eq : all = done ++ pathsE (dropE i es)
structure PiAt (W0 : World) (all : List ByteArray) (es : Es) (i j kg : Nat) (ks done : List ByteArray) (v : Value) (W : World) : Prop where
  own : W.ownsRow W0.heap.size 9 1 v done.length (done.map Value.string)
  keep : KeepW W0 W0.heap.size W
  row : ∀ (q : Nat) (x : ByteArray), ks[q]? = some x → W.cell? ⟨kg, q, none⟩ = some (.string x)
  lt : kg < W.heap.size
  ne : v.ownBlock ≠ some kg
  eq : all = done ++ (ks.drop j).map (pjS (nmE es i)) ++ pathsE (dropE (i + 1) es)
set_option maxRecDepth 1000000 in
set_option maxRecDepth 100000 in
set_option maxHeartbeats 2000000 in
theorem refpaths_any : ∀ (m : Nat) (nd : Nd), nd.es.count ≤ m → weiE nd.es ≤ 1000000 → ∀ (w : World) (B : Nat), B ≤ w.heap.size → ∀ v, NdV w B v nd →
    Calls Tryd.prog 47 #[v] w fun e W => Below w.heap.size w W ∧ ∃ v', e = .returned v' ∧ W.ownsRow w.heap.size 9 1 v' (pathsG nd).length ((pathsG nd).map Value.string) := by
  intro m
  induction m using Nat.strongRecOn with
  | ind m ih =>
  intro nd hm hwei w B hB v hv
  obtain ⟨ev, rfl, hes, hd, hk⟩ := hv
  obtain ⟨A, c, rfl, hlc, hcm⟩ := hes.form
  obtain ⟨i0, hi0, hz0, hz1, hzb⟩ := info_parts infoStrF
  have HIH := Lib.hid (And.intro ih hm)
  clear ih hm
  go_enter Tryd.func47, Tryd.ntmps47
  obtain ⟨W0, e0, hg0, hb0, hz0'⟩ : ∃ W0, W0 = w.alloc (.cells #[.int .u8 (nd.k : Int), .string nd.d, .slice A nd.es.len c] 26) ∧ W0.heap[w.heap.size]? = some (.cells #[.int .u8 (nd.k : Int), .string nd.d, .slice A nd.es.len c] 26 (0, 0)) ∧ Below w.heap.size w W0 ∧ W0.heap.size = w.heap.size + 1 := ⟨_, rfl, heap_alloc_new _ _, (Below.refl _ _).alloc (Nat.le_refl _) _, by simp⟩
  obtain ⟨W1, e1, hg1, hk1⟩ : ∃ W1, W1 = W0.alloc (.cells #[.string ⟨#[]⟩] 9) ∧ W1.heap[W0.heap.size]? = some (.cells #[.string ⟨#[]⟩] 9 (0, 0)) ∧ KeepW W0 W0.heap.size W1 := ⟨_, rfl, heap_alloc_new _ _, (KeepW.start (Nat.le_refl _)).alloc _⟩
  have HF := Lib.hid (show PhAt w W0 (pathsG nd) nd.es 0 [⟨#[]⟩] (.slice (some ⟨W0.heap.size, 0, none⟩) 1 1) W1 from ⟨⟨rfl, .inr ⟨W0.heap.size, 1, _, rfl, Nat.le_refl _, hg1, Nat.le_refl _, by decide, rfl, rfl⟩⟩, hk1, by simp [pathsG, dropE]⟩)
  have HB := Lib.hid (And.intro hg0 (And.intro hb0 hz0'))
  have HES := Lib.hid hes
  go_upto_region 2 with (fail)
  rw [← e0]
  have hsz' : w.heap.size + 1 = W0.heap.size := hz0'.symm
  rw [hsz', ← e1]
  clear e0 e1 hg0 hb0 hz0' hg1 hk1 hsz' hes
  go_wp2
  go_loopg [3, 4] nd.es.len (fun g u3 u4 wx => ∃ (done : List ByteArray) (i : Nat), u4 = .int .i64 (i : Int) ∧ i + g = nd.es.len ∧ Hid (PhAt w W0 (pathsG nd) nd.es i done u3 wx))
  case atStart => exact ⟨_, 0, rfl, by omega, HF⟩
  case round =>
    clear HF
    obtain ⟨done, i, rfl, hig, HI⟩ := hrel
    have HBL := Lib.hid (below_step HB.out.2.1 HI.out.keep.1 (by have := HB.out.2.2; omega))
    obtain ⟨hn0, hn1, hn2, _⟩ := nd_box (W := wr) (k := nd.k) (d := nd.d) (v := .slice A nd.es.len c) ((HI.out.keep.1.block w.heap.size (by have := HB.out.2.2; omega)).trans HB.out.1)
    clear hn0 hn1
    cases gk with
    | zero =>
      obtain rfl : i = nd.es.len := by omega
      have HE := Lib.hid (show pathsG nd = done by rw [HI.out.eq, drop_all]; simp [pathsE])
      go_wp2
      go_ret
      refine ⟨HBL.out, _, rfl, ?_⟩
      rw [HE.out]
      obtain ⟨h1, h2⟩ := HI.out.own
      refine ⟨h1, ?_⟩
      rcases h2 with h | ⟨g, cap, cur, a1, a2, a3⟩
      · exact .inl h
      · exact .inr ⟨g, cap, cur, a1, by have := HB.out.2.2; omega, a3⟩
    | succ g =>
      have hil : i < nd.es.len := by omega
      obtain ⟨ab, ao, rfl, hlt, hcs⟩ := es_addr HES.out (by omega)
      obtain ⟨hnc0, hnz⟩ := name_at hcs hil
      obtain ⟨hk1, hk2, hk3, hk4, A2, c2, hk5, hk6⟩ := kid_at hcs hil hlt
      have hq1 : wr.cell? ⟨ab, ao + i * 4 + 1, none⟩ = _ := (HBL.out.cell (p := ⟨ab, ao + i * 4 + 1, none⟩) (by show ab < _; omega)).trans hk1
      have hq2 : wr.cell? ⟨ab, ao + i * 4 + 2, none⟩ = _ := (HBL.out.cell (p := ⟨ab, ao + i * 4 + 2, none⟩) (by show ab < _; omega)).trans hk2
      have hq3 : wr.cell? ⟨ab, ao + i * 4 + 3, none⟩ = _ := (HBL.out.cell (p := ⟨ab, ao + i * 4 + 3, none⟩) (by show ab < _; omega)).trans hk5
      have hiI : (i : Int) < (nd.es.len : Int) := by omega
      have hi0' : (0 : Int) ≤ (i : Int) := by omega
      have hw1 : IntKind.i64.wrap ((i : Int) + 1) = (i : Int) + 1 := IntWalk.i64_in _ (by unfold maxLen at hcm; omega)
      have hkc := kid_count nd.es i hil
      have hwk := wei_kid nd.es i hil
      have HREC := Lib.hid (HIH.out.1 (kidE nd.es i).es.count (by have := HIH.out.2; omega) (kidE nd.es i) (Nat.le_refl _) (by omega) wr B (Nat.le_trans hB HBL.out.size) _ ⟨_, rfl, hk6.keep (HBL.out.mono hB), hk3, hk4⟩)
      have HNM := Lib.hid (And.intro hnc0 (And.intro hlt (And.intro hwk.2 (show (pathsG (kidE nd.es i)).length ≤ 1000001 by have := pathsE_len (kidE nd.es i).es; have := wei_count (kidE nd.es i).es; simp only [pathsG, List.length_cons]; omega))))
      have HSZ := Lib.hid (fun (x : ByteArray) (hx : x ∈ pathsE (kidE nd.es i).es) => pathsE_size _ x hx)
      have HDP := Lib.hid (drop_paths hil)
      clear hk1 hk2 hk3 hk4 hk5 hk6 hkc hwk hcs hnc0
      go_wp2_with fail
      refine HREC.out.mono ?_
      rintro e W2 ⟨hb2, vk, rfl, hownk⟩
      obtain ⟨ks, hks⟩ : ∃ ks, ks = pathsG (kidE nd.es i) := ⟨_, rfl⟩
      rw [← hks] at hownk HNM HDP
      have hkl : 0 < ks.length := by rw [hks]; simp [pathsG]
      obtain ⟨kg, kc, rfl, hkg, hkg2, hkc1, hkc2⟩ := own_at hownk hkl
      have HSX := Lib.hid (fun (x : ByteArray) (hx : x ∈ ks) => show x.size ≤ weiE (kidE nd.es i).es from by
        rw [hks] at hx
        rcases List.mem_cons.1 hx with rfl | hx
        · exact Nat.zero_le _
        · exact HSZ.out x hx)
      have hrow : ∀ (q : Nat) (x : ByteArray), ks[q]? = some x → W2.cell? ⟨kg, q, none⟩ = some (.string x) := fun q x hx => by
        have := hownk.cells (g := kg) rfl q (.string x) (by simp [hx])
        rwa [add_none, Nat.zero_add] at this
      have HJ0 := Lib.hid (show PiAt W0 (pathsG nd) nd.es i 0 kg ks done u3 W2 from
        ⟨(Ch.of_below hb2 (fun k => wr.heap.size ≤ k) (fun _ _ h => h)).own HI.out.own (fun b hb h => by have := (HI.out.own.lt b hb).2; omega), HI.out.keep.step hb2, hrow, hkg2, fun e => by have := (HI.out.own.lt kg e).2; omega, by rw [HI.out.eq, HDP.out]; simp⟩)
      have HFEW := Lib.hid (show (pathsG nd).length ≤ 1000001 by have := pathsE_len nd.es; have := wei_count nd.es; simp only [pathsG, List.length_cons]; omega)
      have HKC := Lib.hid (And.intro hkc1 hkc2)
      clear hb2 hownk hks hkl hkg hkg2 hrow HI HSZ hq1 hq2 hq3 hn2 hkc1 hkc2 HREC HDP
      go_wp2
      go_loopg [3, 6] ks.length (fun q u3 u6 wx => ∃ (done2 : List ByteArray) (j : Nat), u6 = .int .i64 (j : Int) ∧ j + q = ks.length ∧ Hid (PiAt W0 (pathsG nd) nd.es i j kg ks done2 u3 wx))
      case atStart => exact ⟨done, 0, rfl, by omega, HJ0⟩
      case round =>
        clear HJ0
        obtain ⟨done2, j, rfl, hjq, HJ⟩ := hrel
        cases gk with
        | zero =>
          obtain rfl : j = ks.length := by omega
          have HN := Lib.hid (show PhAt w W0 (pathsG nd) nd.es (i + 1) done2 u3 wr from ⟨HJ.out.own, HJ.out.keep, by rw [HJ.out.eq]; simp⟩)
          go_wp2
          go_roundg g
          case measure => omega
          case rel => exact ⟨done2, i + 1, by simp, by omega, HN.out⟩
        | succ gj =>
          have hjl : j < ks.length := by omega
          obtain ⟨x, hx⟩ : ∃ x, ks[j]? = some x := ⟨_, List.getElem?_eq_getElem hjl⟩
          have hxc := HJ.out.row j x hx
          have hxs := HSX.out x (List.mem_of_getElem? hx)
          have HDR := Lib.hid (show ks.drop j = x :: ks.drop (j + 1) by
            rw [List.drop_eq_getElem_cons hjl]
            rw [List.getElem?_eq_getElem hjl] at hx
            rw [Option.some.inj hx])
          have HBJ := Lib.hid (below_step HB.out.2.1 HJ.out.keep.1 (by have := HB.out.2.2; omega))
          have hnmc : wr.cell? ⟨ab, ao + i * 4, none⟩ = some (.string (nmE nd.es i)) := (HBJ.out.cell (p := ⟨ab, ao + i * 4, none⟩) (by show ab < _; omega)).trans HNM.out.1
          obtain ⟨_, _, hn2, _⟩ := nd_box (W := wr) (k := nd.k) (d := nd.d) (v := .slice (some ⟨ab, ao, none⟩) nd.es.len c) ((HJ.out.keep.1.block w.heap.size (by have := HB.out.2.2; omega)).trans HB.out.1)
          have hjI : (j : Int) < (ks.length : Int) := by omega
          have hj0 : (0 : Int) ≤ (j : Int) := by omega
          have hfew2 : done2.length ≤ 1000001 := by
            have h1 := HFEW.out
            rw [HJ.out.eq] at h1
            simp only [List.length_append] at h1
            omega
          have hwj : IntKind.i64.wrap ((j : Int) + 1) = (j : Int) + 1 := IntWalk.i64_in _ (by have := HNM.out.2.2.2; omega)
          have hsz1 := HNM.out.2.2.1
          clear hx
          rcases Bool.eq_false_or_eq_true x.toList.isEmpty with he | he
          · have HPJ := Lib.hid (show pjS (nmE nd.es i) x = nmE nd.es i by unfold pjS; rw [if_pos he])
            go_wp2_with (at_builtin; refine wpList_app rfl _ _ 35 rfl W0.heap.size 9 i0 (.string ⟨#[]⟩) 16 Tryd.underlying35 hi0 hz0 hz1 hzb rfl _ _ _ rfl (HJ.out.own.alloc _) ⟨wr.heap.size, 0, none⟩ 1 1 [.string (nmE nd.es i)] rfl rfl (cell_one_new _ _ _) (by intro u hu; simp at hu; subst hu; rfl) (by unfold maxLen; omega) (by omega) (by have := HJ.out.keep.2; simp; omega) ?_)
            intro v' w4 hown4 hgrow4 hmv4
            have hkp := HJ.out.keep.alloc (.cells #[.string (nmE nd.es i)] 9)
            have hbl4 : KeepW W0 W0.heap.size w4 := ⟨hkp.1.grown hgrow4 hkp.2 (fun k e => (HJ.out.own.lt k e).1), Nat.le_trans hkp.2 hgrow4.size⟩
            have hne4 : v'.ownBlock ≠ some kg := hmv4.ne (by have := HJ.out.lt; simp; omega) HJ.out.ne
            have hrow4 : ∀ (q : Nat) (y : ByteArray), ks[q]? = some y → w4.cell? ⟨kg, q, none⟩ = some (.string y) := fun q y hy => by
              have h1 := HJ.out.row q y hy
              have h2 : (wr.alloc (.cells #[.string (nmE nd.es i)] 9)).cell? ⟨kg, q, none⟩ = some (.string y) := (World.cell?_of_block (old_block _ _ _ HJ.out.lt)).trans h1
              exact (World.cell?_of_block (hgrow4.block kg (by have := HJ.out.lt; simp; omega) (fun e => HJ.out.ne e.symm))).trans h2
            have hlt4 : kg < w4.heap.size := by have h := hgrow4.size; have h2 := HJ.out.lt; simp at h; omega
            have HN := Lib.hid (show PiAt W0 (pathsG nd) nd.es i (j + 1) kg ks (done2 ++ [pjS (nmE nd.es i) x]) v' w4 from by
              refine ⟨?_, hbl4, hrow4, hlt4, hne4, ?_⟩
              · have e : pjS (nmE nd.es i) x = (nmE nd.es i) := HPJ.out
                rw [e]
                simpa using hown4
              · rw [HJ.out.eq, HDR.out]; simp)
            clear hown4 hgrow4 hmv4 hkp hbl4 hne4 hrow4 hlt4 HJ
            go_wp2
            go_roundg gj
            case measure => omega
            case rel => exact ⟨_, j + 1, by simp, by omega, HN.out⟩
          · have HPJ := Lib.hid (show pjS (nmE nd.es i) x = nmE nd.es i ++ ⟨#[47]⟩ ++ x by unfold pjS; rw [if_neg (by rw [he]; exact Bool.false_ne_true)])
            have ha0 : (⟨#[47]⟩ : ByteArray).size = 1 := rfl
            have ha1 : ¬ 9223372036854775807 < (nmE nd.es i).size + 1 := by omega
            have ha2 : ¬ 9223372036854775807 < (nmE nd.es i).size + 1 + x.size := by omega
            have ha3 : (nmE nd.es i ++ (⟨#[47]⟩ : ByteArray)).size = (nmE nd.es i).size + 1 := by rw [ByteArray.size_append]; rfl
            go_wp2_with (at_builtin; refine wpList_app rfl _ _ 35 rfl W0.heap.size 9 i0 (.string ⟨#[]⟩) 16 Tryd.underlying35 hi0 hz0 hz1 hzb rfl _ _ _ rfl (HJ.out.own.alloc _) ⟨wr.heap.size, 0, none⟩ 1 1 [.string (nmE nd.es i ++ ⟨#[47]⟩ ++ x)] rfl rfl (cell_one_new _ _ _) (by intro u hu; simp at hu; subst hu; rfl) (by unfold maxLen; omega) (by omega) (by have := HJ.out.keep.2; simp; omega) ?_)
            intro v' w4 hown4 hgrow4 hmv4
            have hkp := HJ.out.keep.alloc (.cells #[.string (nmE nd.es i ++ ⟨#[47]⟩ ++ x)] 9)
            have hbl4 : KeepW W0 W0.heap.size w4 := ⟨hkp.1.grown hgrow4 hkp.2 (fun k e => (HJ.out.own.lt k e).1), Nat.le_trans hkp.2 hgrow4.size⟩
            have hne4 : v'.ownBlock ≠ some kg := hmv4.ne (by have := HJ.out.lt; simp; omega) HJ.out.ne
            have hrow4 : ∀ (q : Nat) (y : ByteArray), ks[q]? = some y → w4.cell? ⟨kg, q, none⟩ = some (.string y) := fun q y hy => by
              have h1 := HJ.out.row q y hy
              have h2 : (wr.alloc (.cells #[.string (nmE nd.es i ++ ⟨#[47]⟩ ++ x)] 9)).cell? ⟨kg, q, none⟩ = some (.string y) := (World.cell?_of_block (old_block _ _ _ HJ.out.lt)).trans h1
              exact (World.cell?_of_block (hgrow4.block kg (by have := HJ.out.lt; simp; omega) (fun e => HJ.out.ne e.symm))).trans h2
            have hlt4 : kg < w4.heap.size := by have h := hgrow4.size; have h2 := HJ.out.lt; simp at h; omega
            have HN := Lib.hid (show PiAt W0 (pathsG nd) nd.es i (j + 1) kg ks (done2 ++ [pjS (nmE nd.es i) x]) v' w4 from by
              refine ⟨?_, hbl4, hrow4, hlt4, hne4, ?_⟩
              · have e : pjS (nmE nd.es i) x = (nmE nd.es i ++ ⟨#[47]⟩ ++ x) := HPJ.out
                rw [e]
                simpa using hown4
              · rw [HJ.out.eq, HDR.out]; simp)
            clear hown4 hgrow4 hmv4 hkp hbl4 hne4 hrow4 hlt4 HJ
            go_wp2
            go_roundg gj
            case measure => omega
            case rel => exact ⟨_, j + 1, by simp, by omega, HN.out⟩
end Go.Proofs.YtmcafiihicanfaaDoor
