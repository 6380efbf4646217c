/- files: the reference's Names. -/
import Derived.Test.YtmcafiihicanfaaDoorFilX
set_option linter.unusedVariables false
set_option linter.unusedSimpArgs false
namespace Go.Proofs.YtmcafiihicanfaaDoor
open Go Go.RowKit Go.BigFrame
open Fil (Es Nd Sp badB)

theorem infoStrF : (Tryd.prog.info? 9).map (fun i => (i.zero, i.size, i.bytes)) = some (some (.string ⟨#[]⟩), 1, 16) := by kernel_rfl
def NamesPost (w : World) (s : ByteArray) (e : Ending) (W : World) : Prop :=
  Below w.heap.size w W ∧ match rowN s with
  | none => e = .returned (.tuple #[.slice none 0 0, .bool false])
  | some l => ∃ v, e = .returned (.tuple #[v, .bool true]) ∧ W.ownsRow w.heap.size 9 1 v l.length (l.map Value.string)
/-- Between two rounds: the names that are done, where the next begins. -/
structure NmInv (w : World) (s : ByteArray) (done : List ByteArray) (fr i : Nat) (v : Value) (W : World) : Prop where
  own : W.ownsRow w.heap.size 9 1 v done.length (done.map Value.string)
  below : Below w.heap.size w W
  ok : ∀ x ∈ done, Fil.nameB x = true
  few : done.length ≤ fr
  le : fr ≤ i
  some' : i ≤ s.size → done.map (·.data.toList) ++ Ver.parts 47 (s.data.toList.drop fr) = Ver.parts 47 s.data.toList ∧ (47 : UInt8) ∉ (s.data.toList.drop fr).take (i - fr)
  all' : i = s.size + 1 → done.map (·.data.toList) = Ver.parts 47 s.data.toList
theorem texts_inj : ∀ {a b : List ByteArray}, a.map (·.data.toList) = b.map (·.data.toList) → a = b
  | [], [], _ => rfl
  | [], _ :: _, h => by simp at h
  | _ :: _, [], h => by simp at h
  | x :: a, y :: b, h => by
    simp only [List.map_cons, List.cons.injEq] at h
    have hxy : x = y := by cases x; cases y; simp only [ByteArray.mk.injEq]; exact Array.toList_inj.1 h.1
    rw [hxy, texts_inj h.2]
theorem seg_data (s : ByteArray) (a b : Nat) : (s.extract a b).data.toList = (s.data.toList.drop a).take (b - a) := by
  rw [ByteArray.data_extract, Array.toList_extract, List.extract_eq_take_drop]
theorem seg_size (s : ByteArray) (a b : Nat) : (s.extract a b).size ≤ s.size := by
  rw [Lib.size_eq, seg_data, Lib.size_eq s, List.length_take, List.length_drop]
  omega
theorem NmInv.seg {w : World} {s : ByteArray} {done : List ByteArray} {fr i : Nat} {v : Value} {W : World} (h : NmInv w s done fr i v W) (hi : i ≤ s.size) (hx : i = s.size ∨ s.data.toList[i]? = some 47) :
    (i < s.size → done.map (·.data.toList) ++ ((s.extract fr i).data.toList :: Ver.parts 47 (s.data.toList.drop (i + 1))) = Ver.parts 47 s.data.toList) ∧ (i = s.size → done.map (·.data.toList) ++ [(s.extract fr i).data.toList] = Ver.parts 47 s.data.toList) := by
  obtain ⟨h1, h2⟩ := h.some' hi
  have hL := Lib.size_eq s
  rw [seg_data]
  refine ⟨fun hlt => ?_, fun he => ?_⟩
  · have h47 : s.data.toList[i]? = some 47 := by
      rcases hx with e | e
      · omega
      · exact e
    have hd : s.data.toList.drop fr = (s.data.toList.drop fr).take (i - fr) ++ 47 :: s.data.toList.drop (i + 1) := by
      have e := (List.take_append_drop (i - fr) (s.data.toList.drop fr)).symm
      rw [List.drop_drop, show fr + (i - fr) = i by have := h.le; omega] at e
      have hlt2 : i < s.data.toList.length := by omega
      rw [List.drop_eq_getElem_cons hlt2] at e
      rw [List.getElem?_eq_getElem hlt2] at h47
      rw [Option.some.inj h47] at e
      exact e
    rw [hd, Ver.parts_app 47 _ _ h2] at h1
    exact h1
  · have hd : (s.data.toList.drop fr).take (i - fr) = s.data.toList.drop fr := List.take_of_length_le (by simp; omega)
    rw [hd] at h2 ⊢
    rw [Ver.parts_not 47 _ h2] at h1
    exact h1
theorem seg_in {s x : ByteArray} (h : x.data.toList ∈ Ver.parts 47 s.data.toList) : x ∈ piecesB 47 s := by
  rw [← pieces_data, List.mem_map] at h
  obtain ⟨y, hy, e⟩ := h
  have hxy : y = x := by cases x; cases y; simp only [ByteArray.mk.injEq]; exact Array.toList_inj.1 e
  rwa [← hxy]
set_option maxRecDepth 1000000 in
set_option maxRecDepth 100000 in
set_option maxHeartbeats 4000000 in
theorem names_any (s : ByteArray) (hs : s.size ≤ 1000000) (w : World) : Calls Tryd.prog 45 #[.string s] w (NamesPost w s) := by
  go_enter Tryd.func45, Tryd.ntmps45
  rcases Bool.eq_false_or_eq_true s.toList.isEmpty with he | he
  · have HR := Lib.hid (show rowN s = some [] by unfold rowN; rw [if_pos he])
    go_wp2
    go_ret2
    refine ⟨Below.refl _ _, ?_⟩
    rw [HR.out]
    exact ⟨_, rfl, World.ownsRow_nil _ _ _ _⟩
  have HR := Lib.hid (show rowN s = if (piecesB 47 s).all Fil.nameB then some (piecesB 47 s) else none by unfold rowN; rw [if_neg (by simp [he])])
  have HPD := Lib.hid (pieces_data 47 s)
  obtain ⟨i0, hi0, hz0, hz1, hzb⟩ := info_parts infoStrF
  go_wp2
  go_loopg [4, 5, 6] (s.size + 1) (fun g u4 u5 u6 wx => ∃ (done : List ByteArray) (fr i : Nat), u5 = .int .i64 (fr : Int) ∧ u6 = .int .i64 (i : Int) ∧ i + g = s.size + 1 ∧ fr ≤ i ∧ Hid (NmInv w s done fr i u4 wx))
  case atStart => exact ⟨[], 0, 0, rfl, rfl, by omega, Nat.le_refl _, ⟨World.ownsRow_nil _ _ _ _, Below.refl _ _, by simp, Nat.le_refl _, Nat.le_refl _, fun _ => by simp, fun h => by omega⟩⟩
  case round =>
    obtain ⟨done, fr, i, rfl, rfl, hig, hfi, HI⟩ := hrel
    cases gk with
    | zero =>
      obtain rfl : i = s.size + 1 := by omega
      have HN := Lib.hid (show rowN s = some done by
        have e : done = piecesB 47 s := texts_inj ((HI.out.all' rfl).trans HPD.out.symm)
        rw [HR.out, if_pos (by rw [← e, List.all_eq_true]; exact HI.out.ok), ← e])
      go_wp2
      go_ret2
      refine ⟨HI.out.below, ?_⟩
      rw [HN.out]
      exact ⟨_, rfl, HI.out.own⟩
    | succ g =>
      have his : i ≤ s.size := by omega
      have hw1 : IntKind.i64.wrap ((i : Int) + 1) = (i : Int) + 1 := IntWalk.i64_in _ (by omega)
      rcases Nat.lt_or_ge i s.size with hlt | hge
      · obtain ⟨x, hx⟩ : ∃ x : UInt8, s[i]'hlt = x := ⟨_, rfl⟩
        have hxl : s.data.toList[i]? = some x := by rw [← hx]; exact Lib.data_getElem? s i hlt
        rcases Decidable.em (x = 47) with h47 | h47
        · subst h47
          have hne : (((47 : UInt8).toNat : Int) != 47) = false := rfl
          have HSEG := Lib.hid ((HI.out.seg his (.inr hxl)).1 hlt)
          clear hxl
          have HMEM := Lib.hid (show (s.extract fr i).data.toList ∈ Ver.parts 47 s.data.toList by rw [← HSEG.out]; simp)
          have HNM := Lib.hid (fun w => refName_any (s.extract fr i) (by have := seg_size s fr i; unfold maxLen; omega) w)
          rcases Bool.eq_false_or_eq_true (Fil.nameB (s.extract fr i)) with hn | hn
          · have HOK := Lib.hid hn
            go_wp2_with (first
              | (go_at_call 11; refine (HNM.out _).mono ?_; intro e W h; obtain ⟨h1, h2⟩ := h; have h3 := h2.symm; subst h3; subst h1; rw [hn])
              | (at_builtin; refine wpList_append_own _ rfl _ _ 35 rfl w.heap.size 9 i0 (.string ⟨#[]⟩) 1 16 Tryd.underlying35 hi0 hz0 hz1 hzb rfl (by decide) _ _ _ rfl (HI.out.own.alloc _) ⟨wr.heap.size, 0, none⟩ 1 1 [.string (s.extract fr i)] rfl rfl ?c1 ?c2 ?c3 ?c4 ?c5 ?_))
            case c1 => exact cell_one_new _ _ _
            case c2 => intro u hu; simp at hu; subst hu; rfl
            case c3 => have := HI.out.few; unfold maxLen; omega
            case c4 => have := HI.out.few; omega
            case c5 => have := HI.out.below.size; simp; omega
            intro v' w4 hown4 hgrow _
            have HG := Lib.hid (And.intro hown4 hgrow)
            clear hown4 hgrow
            go_wp2
            go_roundg g
            case measure => omega
            case rel =>
              have hbl : Below w.heap.size w w4 := (HI.out.below.alloc HI.out.below.size _).grown HG.out.2 (by simp; exact Nat.le_succ_of_le HI.out.below.size) (fun k e => (HI.out.own.lt k e).1)
              refine ⟨done ++ [s.extract fr i], i + 1, i + 1, by simp, by simp, by omega, Nat.le_refl _, ⟨by simpa using HG.out.1, hbl, fun y hy => ?_, by have := HI.out.few; simp; omega, Nat.le_refl _, ?_, ?_⟩⟩
              · rw [List.mem_append, List.mem_singleton] at hy
                rcases hy with hy | rfl
                · exact HI.out.ok y hy
                · exact HOK.out
              · intro _
                refine ⟨?_, by simp⟩
                rw [← HSEG.out]
                simp
              · intro h9; omega
          · have HN := Lib.hid (show rowN s = none by
              rw [HR.out, if_neg]
              intro ha
              rw [List.all_eq_true] at ha
              have := ha _ (seg_in HMEM.out)
              rw [hn] at this
              cases this)
            go_wp2_with (go_at_call 11; refine (HNM.out _).mono ?_; intro e W h; obtain ⟨h1, h2⟩ := h; have h3 := h2.symm; subst h3; subst h1; rw [hn])
            go_ret2
            refine ⟨HI.out.below, ?_⟩
            rw [HN.out]
            rfl
        · have hne : ((x.toNat : Int) != 47) = true := bne_iff_ne.2 (fun e => h47 (UInt8.toNat_inj.1 (show x.toNat = 47 by omega)))
          have HX := Lib.hid (And.intro hxl h47)
          clear hxl h47
          go_wp2
          go_roundg g
          case measure => omega
          case rel =>
            refine ⟨done, fr, i + 1, rfl, by simp, by omega, by omega, ⟨HI.out.own, HI.out.below, HI.out.ok, HI.out.few, by omega, fun hi1 => ⟨(HI.out.some' his).1, ?_⟩, fun hi1 => by omega⟩⟩
            have h2 := (HI.out.some' his).2
            have hL := Lib.size_eq s
            rw [show i + 1 - fr = (i - fr) + 1 by omega, List.take_add_one, List.mem_append]
            rintro (h3 | h3)
            · exact h2 h3
            · rw [List.getElem?_drop, show fr + (i - fr) = i by omega, HX.out.1] at h3
              simp at h3
              exact HX.out.2 h3.symm
      · obtain rfl : i = s.size := by omega
        have HSEG := Lib.hid ((HI.out.seg his (.inl rfl)).2 rfl)
        clear hge
        have HMEM := Lib.hid (show (s.extract fr s.size).data.toList ∈ Ver.parts 47 s.data.toList by rw [← HSEG.out]; simp)
        have HNM := Lib.hid (fun w => refName_any (s.extract fr s.size) (by have := seg_size s fr s.size; unfold maxLen; omega) w)
        rcases Bool.eq_false_or_eq_true (Fil.nameB (s.extract fr s.size)) with hn | hn
        · have HOK := Lib.hid hn
          go_wp2_with (first
            | (go_at_call 11; refine (HNM.out _).mono ?_; intro e W h; obtain ⟨h1, h2⟩ := h; have h3 := h2.symm; subst h3; subst h1; rw [hn])
            | (at_builtin; refine wpList_append_own _ rfl _ _ 35 rfl w.heap.size 9 i0 (.string ⟨#[]⟩) 1 16 Tryd.underlying35 hi0 hz0 hz1 hzb rfl (by decide) _ _ _ rfl (HI.out.own.alloc _) ⟨wr.heap.size, 0, none⟩ 1 1 [.string (s.extract fr s.size)] rfl rfl ?c1 ?c2 ?c3 ?c4 ?c5 ?_))
          case c1 => exact cell_one_new _ _ _
          case c2 => intro u hu; simp at hu; subst hu; rfl
          case c3 => have := HI.out.few; unfold maxLen; omega
          case c4 => have := HI.out.few; omega
          case c5 => have := HI.out.below.size; simp; omega
          intro v' w4 hown4 hgrow _
          have HG := Lib.hid (And.intro hown4 hgrow)
          clear hown4 hgrow
          go_wp2
          go_roundg g
          case measure => omega
          case rel =>
            have hbl : Below w.heap.size w w4 := (HI.out.below.alloc HI.out.below.size _).grown HG.out.2 (by simp; exact Nat.le_succ_of_le HI.out.below.size) (fun k e => (HI.out.own.lt k e).1)
            refine ⟨done ++ [s.extract fr s.size], s.size + 1, s.size + 1, by simp, by simp, by omega, Nat.le_refl _, ⟨by simpa using HG.out.1, hbl, fun y hy => ?_, by have := HI.out.few; simp; omega, Nat.le_refl _, ?_, ?_⟩⟩
            · rw [List.mem_append, List.mem_singleton] at hy
              rcases hy with hy | rfl
              · exact HI.out.ok y hy
              · exact HOK.out
            · intro h9; omega
            · intro _
              rw [← HSEG.out]
              simp
        · have HN := Lib.hid (show rowN s = none by
            rw [HR.out, if_neg]
            intro ha
            rw [List.all_eq_true] at ha
            have := ha _ (seg_in HMEM.out)
            rw [hn] at this
            cases this)
          go_wp2_with (go_at_call 11; refine (HNM.out _).mono ?_; intro e W h; obtain ⟨h1, h2⟩ := h; have h3 := h2.symm; subst h3; subst h1; rw [hn])
          go_ret2
          refine ⟨HI.out.below, ?_⟩
          rw [HN.out]
          rfl
end Go.Proofs.YtmcafiihicanfaaDoor
