/- cnf: a walk begins: plain maths; what is made. -/
import Derived.Test.YtapaoccpbcjgeaaCnmI
namespace Go.Proofs.Ytapaoccpbcjgeaa
open Go.RowKit Go.BigFrame
open Cnf (at_ Heaped litB leftL heldB zeroB pairB countN)

theorem among_take (cs : List (List Int)) (x : Int) (k : Nat) (h : k < cs.length) : amongL (cs.take (k + 1)) x = amongL (cs.take k) x ++ (if x ∈ cs.getD k [] then [(k : Int)] else []) := by
  unfold amongL
  have e1 : (cs.take (k + 1)).length = k + 1 := by rw [List.length_take]; omega
  have e2 : (cs.take k).length = k := by rw [List.length_take]; omega
  rw [e1, e2, List.range_succ, List.filter_append, List.map_append]
  congr 1
  · congr 1
    apply List.filter_congr
    intro i hi
    rw [List.mem_range] at hi
    simp [List.getD, hi, show i < k + 1 by omega]
  · have hg : (cs.take (k + 1)).getD k [] = cs.getD k [] := by simp [List.getD]
    rw [List.filter_cons, List.filter_nil, hg]
    by_cases c : x ∈ cs.getD k []
    · rw [if_pos c, if_pos (decide_eq_true c)]; rfl
    · rw [if_neg c, if_neg (by rw [decide_eq_true_eq]; exact c)]; rfl
/-- How far a walk has begun: k clauses. -/
structure BegK (p : WPar) (cs : List (List Int)) (v : Int) (k : Nat) (lf : List Int) (b : Bool) (rdy : List Int) : Prop where
  n : p.n = cs.length
  V : p.V = (2 * v + 2).toNat
  ds : p.ds = (cs.take k).map onceI
  ams : ∀ x, litB v x = true → p.ams.getD (idx x) [] = amongL (cs.take k) x
  lf : ∀ j, j < cs.length → lf.getD j 0 = if j < k then ((onceI (cs.getD j [])).length : Int) else 0
  b : b = (cs.take k).any fun c => decide ((onceI c).length = 0)
  rd : ∀ q : Int, q ∈ rdy ↔ ∃ i : Nat, q = (i : Int) ∧ i < k ∧ (onceI (cs.getD i [])).length = 1
  len : rdy.length ≤ k
theorem lefts_sum (cs : List (List Int)) : (lefts cs []).sum ≤ (countN cs : Int) := by
  unfold lefts countN
  induction cs with
  | nil => simp
  | cons c cs ih =>
    have := left_le' c []
    simp at ih ⊢
    omega
theorem falses_get (n j : Nat) : (falses n).getD j false = false := by
  unfold falses
  by_cases h : j < n <;> simp [List.getD, h]
theorem helds_nil (cs : List (List Int)) : helds cs [] = falses cs.length := by
  unfold helds falses
  rw [List.eq_replicate_iff]
  refine ⟨by simp, fun x hx => ?_⟩
  obtain ⟨c, _, rfl⟩ := List.mem_map.1 hx
  simp [heldB]
theorem BegK.walk {p : WPar} {cs : List (List Int)} {v : Int} {w : World} {lf : List Int} {b : Bool} {yv : Value} {rdy : List Int} {us rows : List Value} {ga : Nat} (B : BegK p cs v cs.length lf b rdy) (H : BSt p w lf b yv rdy us rows ga)
    (hn : cs.length ≤ 1000000) (hc : countN cs ≤ 1000000) : WalkAt p cs v w [] rdy b 6000000 := by
  have hlf : lf = lefts cs [] := by
    apply getD_ext _ _ 0 (by rw [H.st.ll, B.n]; simp [lefts])
    intro j hj
    have hj' : j < cs.length := by rw [← B.n, ← H.st.ll]; exact hj
    rw [B.lf j hj', if_pos hj', lefts_get _ _ _ hj', once_left]
  have hst := H.st
  rw [B.n, hlf, ← helds_nil] at hst
  have hb := B.b
  rw [List.take_length] at hb
  refine ⟨⟨_, _, _, hst, fun x _ => ?_⟩, ⟨⟨?_, fun i c hi h1 => .inr ?_, fun i hi => ?_⟩, fun k hk => ?_⟩, ?_⟩
  · rw [falses_get]; simp
  · rw [hb]
    unfold zeroB
    rw [show pairB [] = false from rfl, Bool.false_or]
    congr 1
    funext c
    rw [once_left]
  · obtain ⟨hil, hic⟩ := cs_get hi
    rw [List.mem_map]
    exact ⟨(i : Int), (B.rd _).2 ⟨i, rfl, hil, by rw [hic, ← once_left]; exact h1⟩, by omega⟩
  · obtain ⟨q, hq, rfl⟩ := List.mem_map.1 hi
    obtain ⟨i, rfl, hil, h1⟩ := (B.rd q).1 hq
    exact ⟨cs.getD i [], by simp [List.getD, hil], by rw [once_left]; omega⟩
  · obtain ⟨i, rfl, _⟩ := (B.rd k).1 hk; omega
  · have := lefts_sum cs
    have := B.len
    omega
theorem BegK.coh {p : WPar} {cs : List (List Int)} {v : Int} {w : World} {lf : List Int} {b : Bool} {yv : Value} {rdy : List Int} {us rows : List Value} {ga : Nat} (B : BegK p cs v cs.length lf b rdy) (H : BSt p w lf b yv rdy us rows ga)
    (hv0 : 0 ≤ v) (hv1 : v ≤ 100000) (hn : cs.length ≤ 1000000) (hc : countN cs ≤ 1000000) (hl : ∀ c ∈ cs, ∀ x ∈ c, litB v x = true) : Coh p cs v := by
  have hds := B.ds
  rw [List.take_length] at hds
  have hget : ∀ i, i < cs.length → cs.getD i [] ∈ cs := fun i hi => by simp [List.getD, hi]
  refine ⟨hv0, hv1, B.n, B.V, H.al, fun x hx => by rw [B.ams x hx, List.take_length], by rw [hds, List.length_map], fun i hi x => ?_, fun i hi x hx => hl _ (hget i hi) x hx, by omega, fun i hi => by have := len_count cs _ (hget i hi); omega⟩
  rw [hds, show (cs.map onceI).getD i [] = onceI (cs.getD i []) by simp [List.getD, hi]]
  exact once_mem _ x
/-- A clause more has begun: its place is counted. -/
theorem BegK.next {p p' : WPar} {cs : List (List Int)} {v : Int} {k : Nat} {lf lf' : List Int} {b b' : Bool} {rdy rdy' : List Int} (B : BegK p cs v k lf b rdy) (hk : k < cs.length) (e1 : p'.n = p.n) (e2 : p'.V = p.V) (e3 : p'.ds = p.ds ++ [onceI (cs.getD k [])])
    (ha : ∀ x, litB v x = true → p'.ams.getD (idx x) [] = amongL (cs.take k) x ++ (if x ∈ onceI (cs.getD k []) then [(k : Int)] else []))
    (hl : lf' = lf.set k ((onceI (cs.getD k [])).length : Int)) (hll : lf.length = cs.length)
    (hb : b' = (b || decide (((onceI (cs.getD k [])).length : Int) = 0))) (hr : ∀ q, q ∈ rdy' ↔ q ∈ rdy ∨ (q = (k : Int) ∧ ((onceI (cs.getD k [])).length : Int) = 1)) (hrl : rdy'.length = rdy.length + (if ((onceI (cs.getD k [])).length : Int) = 1 then 1 else 0)) : BegK p' cs v (k + 1) lf' b' rdy' := by
  have htk : cs.take (k + 1) = cs.take k ++ [cs.getD k []] := by
    rw [List.take_succ_eq_append_getElem hk]; simp [List.getD, hk]
  refine ⟨e1.trans B.n, e2.trans B.V, by rw [e3, B.ds, htk, List.map_append]; rfl, fun x hx => ?_, fun j hj => ?_, ?_, fun q => ?_, ?_⟩
  · rw [ha x hx, among_take cs x k hk]
    simp only [once_mem]
  · rw [hl, getD_set _ _ _ _ _ (by rw [hll]; exact hj)]
    by_cases c : k = j
    · subst c
      rw [if_pos rfl, if_pos (by omega)]
    · rw [if_neg c, B.lf j hj]
      by_cases d : j < k
      · rw [if_pos d, if_pos (by omega)]
      · rw [if_neg d, if_neg (by omega)]
  · rw [hb, B.b, htk, List.any_append]
    congr 1
    simp
  · rw [hr, B.rd]
    constructor
    · rintro (⟨i, h1, h2, h3⟩ | ⟨h1, h2⟩)
      · exact ⟨i, h1, by omega, h3⟩
      · exact ⟨k, h1, by omega, by omega⟩
    · rintro ⟨i, h1, h2, h3⟩
      by_cases c : i = k
      · subst c; exact .inr ⟨h1, by omega⟩
      · exact .inl ⟨i, h1, by omega, h3⟩
  · have := B.len
    rw [hrl]
    split <;> omega
/-- What is made first. -/
def Begun (W wx : World) (n V : Nat) (s : Value) : Prop :=
  ∃ g gl gh ga gs, s = .pointer (some ⟨g, 0, none⟩) ∧ wx.heap[g]? = some (.cells #[nilS, .slice (some ⟨gl, 0, none⟩) n n, .slice (some ⟨gh, 0, none⟩) n n, .slice (some ⟨ga, 0, none⟩) V V, .slice (some ⟨gs, 0, none⟩) V V, nilS, .bool false, nilS] 61 (0, 0)) ∧
    wx.heap[gl]? = some (.cells (madeCells #[.int .i64 0] n) 3 (0, 0)) ∧ wx.heap[gh]? = some (.cells (madeCells #[.bool false] n) 4 (0, 0)) ∧ wx.heap[ga]? = some (.cells (madeCells #[.slice none 0 0] V) 35 (0, 0)) ∧ wx.heap[gs]? = some (.cells (madeCells #[.bool false] V) 4 (0, 0)) ∧
    (W.heap.size ≤ g ∧ W.heap.size ≤ gl ∧ W.heap.size ≤ gh ∧ W.heap.size ≤ ga ∧ W.heap.size ≤ gs ∧ g ≠ gl ∧ g ≠ gh ∧ g ≠ ga ∧ g ≠ gs ∧ gl ≠ gh ∧ gl ≠ ga ∧ gl ≠ gs ∧ gh ≠ ga ∧ gh ≠ gs ∧ ga ≠ gs) ∧ Below W.heap.size W wx
theorem made_list (z : Value) (n : Nat) : madeCells #[z] n = (List.replicate n z).toArray := by
  apply Array.ext'
  rw [toList_madeCells_one]
theorem new_at (W : World) (o : Obj) (i : Nat) (h : i = W.heap.size) : (W.alloc o).heap[i]? = some o := by subst h; exact heap_alloc_new W o
theorem five (W : World) (a b c d e : Obj) : ((((((W.alloc a).alloc b).alloc c).alloc d).alloc e).heap[W.heap.size]? = some a ∧ (((((W.alloc a).alloc b).alloc c).alloc d).alloc e).heap[W.heap.size + 1]? = some b ∧ (((((W.alloc a).alloc b).alloc c).alloc d).alloc e).heap[W.heap.size + 1 + 1]? = some c ∧
    (((((W.alloc a).alloc b).alloc c).alloc d).alloc e).heap[W.heap.size + 1 + 1 + 1]? = some d ∧ (((((W.alloc a).alloc b).alloc c).alloc d).alloc e).heap[W.heap.size + 1 + 1 + 1 + 1]? = some e) ∧ Below W.heap.size W (((((W.alloc a).alloc b).alloc c).alloc d).alloc e) := by
  refine ⟨⟨?_, ?_, ?_, ?_, ?_⟩, (((((Below.refl _ _).alloc (Nat.le_refl _) _).alloc (by simp) _).alloc (by simp <;> omega) _).alloc (by simp <;> omega) _).alloc (by simp <;> omega) _⟩
  · exact (Below.heap_alloc _ _ _ (by simp <;> omega)).trans ((Below.heap_alloc _ _ _ (by simp <;> omega)).trans ((Below.heap_alloc _ _ _ (by simp <;> omega)).trans ((Below.heap_alloc _ _ _ (by simp <;> omega)).trans (new_at _ _ _ (by simp <;> omega)))))
  · exact (Below.heap_alloc _ _ _ (by simp <;> omega)).trans ((Below.heap_alloc _ _ _ (by simp <;> omega)).trans ((Below.heap_alloc _ _ _ (by simp <;> omega)).trans (new_at _ _ _ (by simp <;> omega))))
  · exact (Below.heap_alloc _ _ _ (by simp <;> omega)).trans ((Below.heap_alloc _ _ _ (by simp <;> omega)).trans (new_at _ _ _ (by simp <;> omega)))
  · exact (Below.heap_alloc _ _ _ (by simp <;> omega)).trans (new_at _ _ _ (by simp <;> omega))
  · exact new_at _ _ _ (by simp <;> omega)
def begTag (g gl gh ga gs : Nat) : Nat → Nat := fun k => if k = g then 1 else if k = gl then 2 else if k = gh then 3 else if k = gs then 4 else if k = ga then 7 else 0
def begP (base g gl gh ga gs n V : Nat) : WPar := { base := base, g := g, gl := gl, gh := gh, gs := gs, n := n, V := V, tag := begTag g gl gh ga gs, vc := nilS, va := .slice (some ⟨ga, 0, none⟩) V V, ds := [], ams := List.replicate V [] }
theorem begun_st {W wx : World} {n V base : Nat} {s : Value} (h : Begun W wx n V s) (hb : base ≤ W.heap.size) (hV : V ≤ maxLen) : ∃ g gl gh ga gs, s = .pointer (some ⟨g, 0, none⟩) ∧ BSt (begP base g gl gh ga gs n V) wx (List.replicate n 0) false nilS [] [] (List.replicate V nilS) ga ∧ Below W.heap.size W wx ∧ W.heap.size ≤ ga := by
  obtain ⟨g, gl, gh, ga, gs, rfl, h0, h1, h2, h3, h4, hd, hbl⟩ := h
  refine ⟨g, gl, gh, ga, gs, rfl, ?_, hbl, hd.2.2.2.1⟩
  have hz : W.heap.size ≤ wx.heap.size := hbl.size
  have hat : (begP base g gl gh ga gs n V).tag ga = 7 := by
    show begTag g gl gh ga gs ga = 7
    unfold begTag
    rw [if_neg (by omega), if_neg (by omega), if_neg (by omega), if_neg (by omega), if_pos rfl]
  have hablk : wx.heap[ga]? = some (.cells (List.replicate V nilS).toArray 35 (0, 0)) := by rw [h3, made_list]; rfl
  have hnil : ∀ q, (List.replicate V nilS).getD q nilS = nilS := fun q => by by_cases c : q < V <;> simp [List.getD, c]
  have hnil2 : ∀ q, (List.replicate V ([] : List Int)).getD q [] = [] := fun q => by by_cases c : q < V <;> simp [List.getD, c]
  have hrow : ∀ q, q < V → wx.ownsRow base 3 1 ((List.replicate V nilS).getD q nilS) ((List.replicate V ([] : List Int)).getD q []).length (ints ((List.replicate V ([] : List Int)).getD q [])) := fun q _ => by
    rw [hnil, hnil2]; exact World.ownsRow_nil _ _ _ _
  have hrt : ∀ q, q < V → ∀ k, ((List.replicate V nilS).getD q nilS).ownBlock = some k → (begP base g gl gh ga gs n V).tag k = 10 + q := fun q _ k hk => by
    rw [hnil] at hk; cases hk
  have hcow : wx.ownsRow base 35 1 nilS 0 [] := World.ownsRow_nil _ _ _ _
  have hci : ItemsS IRow wx (fun k => (begP base g gl gh ga gs n V).tag k = 5) [] [] := ItemsS.nil _ _ _
  refine ⟨⟨?_, ?_, ?_, h0, ?_, ?_, ?_, World.ownsRow_nil _ _ _ _, World.ownsRow_nil _ _ _ _, ?_, out_cl (p := begP base g gl gh ga gs n V) hcow (fun k hk => by cases hk) hci, out_am (p := begP base g gl gh ga gs n V) rfl hablk hat (by simp [begP]) (by simp [begP]) hV hrow hrt, ?_, ?_, ?_, by simp [begP], by simp [begP, falses], by simp [begP, falses]⟩, hcow, (fun k hk => by cases hk), hci, rfl, hablk, hat, by simp [begP], by simp [begP], hV, hrow, hrt⟩
  · show begTag g gl gh ga gs g = 1 ∧ begTag g gl gh ga gs gl = 2 ∧ begTag g gl gh ga gs gh = 3 ∧ begTag g gl gh ga gs gs = 4
    unfold begTag
    refine ⟨if_pos rfl, ?_, ?_, ?_⟩
    · rw [if_neg (by omega), if_pos rfl]
    · rw [if_neg (by omega), if_neg (by omega), if_pos rfl]
    · rw [if_neg (by omega), if_neg (by omega), if_neg (by omega), if_pos rfl]
  · simp only [begP]; omega
  · intro k hk
    have b0 := block_lt h0; have b1 := block_lt h1; have b2 := block_lt h2; have b3 := block_lt h3; have b4 := block_lt h4
    show begTag g gl gh ga gs k = 0
    unfold begTag
    rw [if_neg (by omega), if_neg (by omega), if_neg (by omega), if_neg (by omega), if_neg (by omega)]
  · show wx.heap[gl]? = _
    rw [h1, made_list]; simp [ints]
  · show wx.heap[gh]? = _
    rw [h2, made_list]; simp [bools, falses, begP]
  · show wx.heap[gs]? = _
    rw [h4, made_list]; simp [bools, falses, begP]
  · intro k h0 hk; simp at hk
  · intro k hk; cases hk
  · intro k hk; cases hk
  · intro k hk; cases hk
end Go.Proofs.Ytapaoccpbcjgeaa

/- cnf: slices.Sort, slices.Compact at a row of the call's own. -/
namespace Go.Proofs.Ytapaoccpbcjgeaa
open Go.RowKit Go.BigFrame

theorem own_rowG {w : World} {base g n cap : Nat} {l : List Int} (h : w.ownsRow base 3 1 (.slice (some ⟨g, 0, none⟩) n cap) n (ints l)) (hn : n = l.length) : RowG w g l ∧ BlkG w g 3 cap ∧ g < w.heap.size ∧ n ≤ cap ∧ cap ≤ maxLen ∧ base ≤ g := by
  subst hn
  rcases h.2 with ⟨e, _⟩ | ⟨g', cap', cur, e, hg, hgg, hnc, hcm, hcs, _⟩
  · cases e
  · simp only [Value.slice.injEq, Option.some.injEq, Addr.mk.injEq, and_true, true_and] at e
    obtain ⟨rfl, rfl⟩ := e
    exact ⟨fun j hj => ⟨by rw [h.cellAt j (by omega)]; exact ints_get l j hj, h.frozenAt j⟩, ⟨cur, hgg, by omega⟩, block_lt hgg, hnc, hcm, hg⟩
def SortU (l : List Int) (v : Value) (base : Nat) (w : World) (e : Ending) (w' : World) : Prop :=
  e = .returned (.tuple #[]) ∧ w'.ownsRow base 3 1 v l.length (ints (l.mergeSort fun x y => decide (x ≤ y))) ∧ Ch w w' (fun k => v.ownBlock = some k)
theorem sortU (l : List Int) (v : Value) (base : Nat) (w : World) (h : w.ownsRow base 3 1 v l.length (ints l)) (hn : l.length ≤ 4000000) : Calls Try.prog 44 #[v] w (SortU l v base w) := by
  by_cases h0 : l.length = 0
  · obtain rfl : l = [] := List.eq_nil_of_length_eq_zero h0
    obtain ⟨A, cap, rfl⟩ := own_form h
    refine (Try.slices_Sort_int_none A cap w).mono ?_
    rintro e w' ⟨rfl, rfl⟩
    exact ⟨rfl, by simpa using h, Ch.refl _ _⟩
  · obtain ⟨g, cap, rfl, _⟩ := own_at h (by omega)
    obtain ⟨hr, hb, hg, hnc, hcm, hbs⟩ := own_rowG h rfl
    refine (sortI_any l g cap w hr hg hn).mono ?_
    rintro e w' ⟨rfl, hr2, hbut⟩
    refine ⟨rfl, ?_, hbut.ch.weak fun k _ e => by rw [e]; rfl⟩
    have := own_of hr2 (hbut.2.2.2.2.2 _ _ hb) (by rw [List.length_mergeSort]; exact hnc) hcm hbs
    rw [List.length_mergeSort] at this
    exact this
def CompactU (l : List Int) (v : Value) (base : Nat) (w : World) (e : Ending) (w' : World) : Prop :=
  ∃ A cap, e = .returned (.slice A (Go.Lib.compact l).length cap) ∧ (Value.slice A (Go.Lib.compact l).length cap).ownBlock = v.ownBlock ∧ w'.ownsRow base 3 1 (.slice A (Go.Lib.compact l).length cap) (Go.Lib.compact l).length (ints (Go.Lib.compact l)) ∧ Ch w w' (fun k => v.ownBlock = some k)
theorem compactU (l : List Int) (n : Nat) (hl : l.length = n) (v : Value) (base : Nat) (w : World) (h : w.ownsRow base 3 1 v n (ints l)) (hn : n ≤ 4000000) : Calls Try.prog 29 #[v] w (CompactU l v base w) := by
  subst hl
  by_cases h0 : l.length = 0
  · obtain rfl : l = [] := List.eq_nil_of_length_eq_zero h0
    obtain ⟨A, cap, rfl⟩ := own_form h
    refine (Try.slices_Compact_int_empty A cap w).mono ?_
    rintro e w' ⟨rfl, rfl⟩
    exact ⟨A, cap, rfl, rfl, h, Ch.refl _ _⟩
  · obtain ⟨g, cap, rfl, _⟩ := own_at h (by omega)
    obtain ⟨hr, hb, hg, hnc, hcm, hbs⟩ := own_rowG h rfl
    refine (compact_any l g cap w hr hnc hn).mono ?_
    rintro e w' ⟨rfl, hr2, hbut⟩
    exact ⟨_, cap, rfl, rfl, own_of hr2 (hbut.2.2.2.2.2 _ _ hb) (Nat.le_trans (compact_len l) hnc) hcm hbs, hbut.ch.weak fun k _ e => by rw [e]; rfl⟩
end Go.Proofs.Ytapaoccpbcjgeaa
