/- cnf: a clause, each literal once: slices.Sort, slices.Compact. -/
import Derived.Test.YtapaoccpbcjgeaaCnmM
import Derived.Test.YtapaoccpbcjgeaaBasB
import Derived.Test.YtapaoccpbcjgeaaCnmJ
import Derived.Test.YtapaoccpbcjgeaaCnmG
namespace Go.Proofs.Ytapaoccpbcjgeaa
open Go.RowKit Go.BigFrame

theorem upto_less (d : Array Int) (h : ∀ i j, i < j → j < d.size → d[i]! ≤ d[j]!) : ∀ m, m ≤ d.size → (Go.Lib.compactUpTo d m).Pairwise (· < ·) ∧ ∀ x, x ∈ Go.Lib.compactUpTo d m ↔ ∃ j, j < m ∧ d[j]! = x
  | 0, _ => by
    refine ⟨by simp [Go.Lib.compactUpTo], fun x => ?_⟩
    simp [Go.Lib.compactUpTo]
  | m + 1, hm => by
    obtain ⟨h1, h2⟩ := upto_less d h m (by omega)
    rw [Go.Lib.compactUpTo_succ]
    cases hk : Go.Lib.keeps d m
    · rw [if_neg (by simp), List.append_nil]
      have hk2 : m ≠ 0 ∧ d[m]! = d[m - 1]! := by
        unfold Go.Lib.keeps at hk
        rw [decide_eq_false_iff_not] at hk
        constructor
        · intro e; exact hk (.inl e)
        · exact Classical.byContradiction fun e => hk (.inr e)
      refine ⟨h1, fun x => ?_⟩
      rw [h2]
      constructor
      · rintro ⟨j, hj, e⟩; exact ⟨j, by omega, e⟩
      · rintro ⟨j, hj, e⟩
        by_cases hjm : j = m
        · subst hjm; exact ⟨j - 1, by omega, by rw [← hk2.2]; exact e⟩
        · exact ⟨j, by omega, e⟩
    · rw [if_pos rfl]
      refine ⟨?_, fun x => ?_⟩
      · rw [List.pairwise_append]
        refine ⟨h1, by simp, fun y hy z hz => ?_⟩
        rw [List.mem_singleton] at hz
        subst hz
        obtain ⟨j, hj, rfl⟩ := (h2 y).1 hy
        have hle := h j m hj (by omega)
        have hne : d[j]! ≠ d[m]! := fun e => by
          have hk2 : d[m]! ≠ d[m - 1]! := by
            unfold Go.Lib.keeps at hk
            rw [decide_eq_true_eq] at hk
            rcases hk with e0 | e0
            · omega
            · exact e0
          have a1 : d[m - 1]! ≤ d[m]! := h (m - 1) m (by omega) (by omega)
          by_cases hjm : j = m - 1
          · subst hjm; exact hk2 e.symm
          · have a2 : d[j]! ≤ d[m - 1]! := h j (m - 1) (by omega) (by omega)
            exact hk2 (by omega)
        omega
      · rw [List.mem_append, List.mem_singleton, h2]
        constructor
        · rintro (⟨j, hj, e⟩ | e)
          · exact ⟨j, by omega, e⟩
          · exact ⟨m, by omega, e.symm⟩
        · rintro ⟨j, hj, e⟩
          by_cases hjm : j = m
          · subst hjm; exact .inr e.symm
          · exact .inl ⟨j, by omega, e⟩
/-- A clause's literals, each once, the least one first. -/
def onceI (c : List Int) : List Int := Go.Lib.compact (c.mergeSort fun x y => decide (x ≤ y))
theorem sorted_le (c : List Int) : (c.mergeSort fun x y => decide (x ≤ y)).Pairwise (· ≤ ·) := by
  have := List.pairwise_mergeSort (le := fun x y : Int => decide (x ≤ y)) (fun a b c h1 h2 => by simp at *; omega) (fun a b => by simp; omega) c
  exact this.imp fun h => of_decide_eq_true h
theorem once_all (c : List Int) : (onceI c).Pairwise (· < ·) ∧ ∀ x, x ∈ onceI c ↔ x ∈ c := by
  have hs := sorted_le c
  have hp := List.mergeSort_perm c (fun x y => decide (x ≤ y))
  unfold onceI
  generalize (c.mergeSort fun x y => decide (x ≤ y)) = s at *
  have hd : ∀ i j, i < j → j < s.toArray.size → s.toArray[i]! ≤ s.toArray[j]! := fun i j hij hj => by
    have hj' : j < s.length := by simpa using hj
    rw [getElem!_pos s.toArray j hj, getElem!_pos s.toArray i (by omega)]
    exact List.pairwise_iff_getElem.1 hs i j (by omega) hj' hij
  obtain ⟨h1, h2⟩ := upto_less s.toArray hd s.length (by simp)
  refine ⟨h1, fun x => ?_⟩
  rw [← hp.mem_iff]
  refine (h2 x).trans ?_
  rw [List.mem_iff_getElem]
  constructor
  · rintro ⟨j, hj, e⟩
    rw [getElem!_pos s.toArray j (by simpa using hj)] at e
    exact ⟨j, hj, by simpa using e⟩
  · rintro ⟨j, hj, e⟩
    refine ⟨j, hj, ?_⟩
    rw [getElem!_pos s.toArray j (by simpa using hj)]
    simpa using e
theorem once_mem (c : List Int) (x : Int) : x ∈ onceI c ↔ x ∈ c := (once_all c).2 x
theorem once_nodup (c : List Int) : (onceI c).Nodup := (once_all c).1.imp fun h => by omega
theorem once_len (c : List Int) : (onceI c).length ≤ c.length := by
  have := compact_len (c.mergeSort fun x y => decide (x ≤ y))
  rw [List.length_mergeSort] at this
  exact this
theorem once_left (c : List Int) : (Cnf.leftL c []).length = (onceI c).length :=
  Cnf.nodup_len _ _ (Cnf.left_nodup c []) (once_nodup c) fun x => by rw [Cnf.mem_left, once_mem]; simp
theorem once_nil : onceI [] = [] := List.eq_nil_of_length_eq_zero (by have := once_len []; simpa using this)
theorem sortI_any (l : List Int) (g cap : Nat) (w : World) (hr : RowG w g l) (hg : g < w.heap.size) (hn : l.length ≤ 4000000) :
    Calls Try.prog 44 #[.slice (some ⟨g, 0, none⟩) l.length cap] w fun e w' => e = .returned (.tuple #[]) ∧ RowG w' g (l.mergeSort fun x y => decide (x ≤ y)) ∧ ButG w w' g := by
  have hH : Go.Sort.Holds (Value.int .i64) w g 0 l.toArray := by
    intro j hj
    have hj' : j < l.length := by simpa using hj
    rw [Nat.zero_add, getElem!_pos l.toArray j hj]
    refine ⟨?_, (hr j hj').2⟩
    rw [(hr j hj').1]
    simp [List.getD, hj']
  refine (Try.slices_Sort_int g 0 cap l w hH hg (by omega)).mono ?_
  rintro e w' ⟨rfl, n, os, rfl⟩
  obtain ⟨s, hs⟩ : ∃ s, s = l.mergeSort fun x y => decide (x ≤ y) := ⟨_, rfl⟩
  have hsl : s.length = l.length := by rw [hs, List.length_mergeSort]
  rw [← hs]
  have hsz : s.toArray.size = l.toArray.size := by simp [hsl]
  have hgs : (Go.Sort.putRow (Value.int .i64) (Go.Sort.ahead w n) g 0 s.toArray).heap.size = w.heap.size := by rw [Go.Sort.size_putRow]; rfl
  have hHW := Go.Sort.holds_grow (Value.int .i64) _ os g 0 s.toArray (by rw [hgs]; exact hg) (Go.Sort.holds_putRow (Value.int .i64) (Go.Sort.ahead w n) g 0 l.toArray s.toArray (Go.Sort.holds_ahead _ w n g 0 _ hH) hsz)
  refine ⟨rfl, fun j hj => ?_, ?_, rfl, rfl, rfl, fun b hb hbg => ?_, fun T cap hb => ?_⟩
  · have hj2 : j < s.toArray.size := by simpa using hj
    have := hHW j hj2
    rw [Nat.zero_add, getElem!_pos _ j hj2] at this
    refine ⟨?_, this.2⟩
    rw [this.1]
    simp [List.getD, hj]
  · rw [Go.Sort.size_grow, hgs]; omega
  · rw [Go.Sort.heap_grow_old _ _ (by rw [hgs]; exact hb)]
    show ((Go.Sort.ahead w n).heap.modify g _)[b]? = _
    rw [Array.getElem?_modify, if_neg (by omega)]
    rfl
  · obtain ⟨cur, h1, h2⟩ := blk_putRow (w := Go.Sort.ahead w n) (Value.int .i64) 0 s.toArray hb
    refine ⟨cur, ?_, h2⟩
    rw [Go.Sort.heap_grow_old _ _ (by rw [hgs]; exact hg)]
    exact h1
theorem ButG.ch {w w' : World} {g : Nat} (h : ButG w w' g) : Ch w w' (fun k => k = g) := ⟨h.2.1, h.2.2.1, h.2.2.2.1, h.1, fun k hk hn => h.2.2.2.2.1 k hk hn⟩
end Go.Proofs.Ytapaoccpbcjgeaa

/- cnf: a walk while it begins: its clauses and the clauses of each literal grow. -/
namespace Go.Proofs.Ytapaoccpbcjgeaa
open Go.RowKit Go.BigFrame
open Cnf (at_ Heaped litB leftL heldB)

def nilS : Value := .slice none 0 0
def falses (n : Nat) : List Bool := List.replicate n false
def tagv (tag : Nat → Nat) (v : Value) (T : Nat) : Nat → Nat := fun b => if v.ownBlock = some b then T else tag b
theorem tagv_at {tag : Nat → Nat} {v : Value} {T b : Nat} (h : v.ownBlock = some b) : tagv tag v T b = T := if_pos h
theorem tagv_no {tag : Nat → Nat} {v : Value} {T b : Nat} (h : v.ownBlock ≠ some b) : tagv tag v T b = tag b := if_neg h
/-- While a walk begins. -/
structure BSt (p : WPar) (w : World) (lf : List Int) (b : Bool) (yv : Value) (rdy : List Int) (us rows : List Value) (ga : Nat) : Prop where
  st : WSt p w [] lf (falses p.n) (falses p.V) b nilS yv rdy
  cown : w.ownsRow p.base 35 1 p.vc us.length us
  ctag : ∀ k, p.vc.ownBlock = some k → p.tag k = 6
  ci : ItemsS IRow w (fun k => p.tag k = 5) us p.ds
  va : p.va = .slice (some ⟨ga, 0, none⟩) p.V p.V
  ablk : w.heap[ga]? = some (.cells rows.toArray 35 (0, 0))
  atag : p.tag ga = 7
  rl : rows.length = p.V
  al : p.ams.length = p.V
  vm : p.V ≤ maxLen
  rown : ∀ q, q < p.V → w.ownsRow p.base 3 1 (rows.getD q nilS) (p.ams.getD q []).length (ints (p.ams.getD q []))
  rtag : ∀ q, q < p.V → ∀ k, (rows.getD q nilS).ownBlock = some k → p.tag k = 10 + q
theorem out_cl {p : WPar} {w : World} {us : List Value} (h : w.ownsRow p.base 35 1 p.vc us.length us) (ht : ∀ k, p.vc.ownBlock = some k → p.tag k = 6) (hi : ItemsS IRow w (fun k => p.tag k = 5) us p.ds) : OutS IRow w p.St p.vc p.ds := by
  refine ⟨us, ?_, hi.weak IRow.keeps fun k _ h => by show 5 ≤ p.tag k; omega⟩
  rw [← hi.1]
  obtain ⟨A, cap, hv, h1, h2, h3, h4⟩ := RdS.own h
  refine ⟨A, cap, hv, h1, h2, h3, fun h0 => ?_⟩
  obtain ⟨ad, rfl, ha, hb, hc⟩ := h4 h0
  refine ⟨ad, rfl, ha, ?_, hc⟩
  have := ht ad.block (by rw [hv]; rfl)
  show 5 ≤ p.tag ad.block
  omega
theorem row_st {p : WPar} {w : World} {v : Value} {l : List Int} {T : Nat} (h : w.ownsRow p.base 3 1 v l.length (ints l)) (ht : ∀ k, v.ownBlock = some k → p.tag k = T) (hT : 5 ≤ T) : IRow w p.St v l := by
  obtain ⟨A, cap, hv, h1, h2, h3, h4⟩ := RdS.own h
  refine ⟨A, cap, hv, h1, h2, h3, fun h0 => ?_⟩
  obtain ⟨ad, rfl, ha, hb, hc⟩ := h4 h0
  refine ⟨ad, rfl, ha, ?_, hc⟩
  have := ht ad.block (by rw [hv]; rfl)
  show 5 ≤ p.tag ad.block
  omega
theorem out_am {p : WPar} {w : World} {rows : List Value} {ga : Nat} (va : p.va = .slice (some ⟨ga, 0, none⟩) p.V p.V) (ablk : w.heap[ga]? = some (.cells rows.toArray 35 (0, 0))) (atag : p.tag ga = 7) (rl : rows.length = p.V) (al : p.ams.length = p.V) (vm : p.V ≤ maxLen)
    (rown : ∀ q, q < p.V → w.ownsRow p.base 3 1 (rows.getD q nilS) (p.ams.getD q []).length (ints (p.ams.getD q []))) (rtag : ∀ q, q < p.V → ∀ k, (rows.getD q nilS).ownBlock = some k → p.tag k = 10 + q) : OutS IRow w p.St p.va p.ams := by
  refine ⟨rows, ⟨some ⟨ga, 0, none⟩, p.V, by rw [va, al], by omega, vm, (fun e => by cases e), fun _ => ⟨_, rfl, block_lt ablk, ?_, fun j u hu => ?_⟩⟩, by rw [rl, al], fun q u x hu hx => ?_⟩
  · show 5 ≤ p.tag ga
    omega
  · have hadd : (⟨ga, 0, none⟩ : Addr).add j = ⟨ga, j, none⟩ := by unfold Addr.add; split <;> simp_all
    rw [hadd, blk_cell ablk j, List.getElem?_toArray]; exact hu
  · have hq : q < p.V := by
      rw [← rl]
      by_cases c : q < rows.length
      · exact c
      · rw [List.getElem?_eq_none (by omega)] at hu; cases hu
    have e1 : rows.getD q nilS = u := by simp [List.getD, hu]
    have e2 : p.ams.getD q [] = x := by simp [List.getD, hx]
    have := row_st (T := 10 + q) (rown q hq) (rtag q hq) (by omega)
    rwa [e1, e2] at this
/-- A change that meets none of its parts. -/
theorem BSt.ch {p : WPar} {w w' : World} {lf : List Int} {b : Bool} {yv : Value} {rdy : List Int} {us rows : List Value} {ga : Nat} {M : Nat → Prop} (H : BSt p w lf b yv rdy us rows ga) (hc : Ch w w' M) (hm : ∀ k, k < w.heap.size → M k → p.tag k = 0 ∧ yv.ownBlock ≠ some k) : BSt p w' lf b yv rdy us rows ga := by
  have t := H.st.tg
  have no : ∀ k, k < w.heap.size → p.tag k ≠ 0 → ¬ M k := fun k hk h0 h => h0 (hm k hk h).1
  have nb : ∀ {k o}, w.heap[k]? = some o → p.tag k ≠ 0 → ¬ M k := fun h h0 => no _ (block_lt h) h0
  refine ⟨⟨t, ⟨H.st.lo.1, H.st.lo.2.1, H.st.lo.2.2.1, H.st.lo.2.2.2.1, Nat.le_trans H.st.lo.2.2.2.2 hc.size⟩, fun k hk => H.st.fresh k (Nat.le_trans hc.size hk), hc.heap H.st.blk (nb H.st.blk (by omega)), hc.heap H.st.left (nb H.st.left (by omega)), hc.heap H.st.holds (nb H.st.holds (by omega)), hc.heap H.st.set (nb H.st.set (by omega)),
    World.ownsRow_nil _ _ _ _, hc.own H.st.rown (fun k hk h => (hm k (H.st.rown.lt k hk).2 h).2 hk), H.st.heap, WSt.cl_ch H.st.cl hc (fun k hk h5 => no k hk (by omega)), WSt.cl_ch H.st.am hc (fun k hk h5 => no k hk (by omega)), H.st.rt, H.st.yt, H.st.ry, H.st.ll, H.st.lh, H.st.ls⟩,
    hc.own H.cown (fun k hk => no k (H.cown.lt k hk).2 (by have := H.ctag k hk; omega)), H.ctag, H.ci.keep IRow.keeps (hc.same _ fun k hk h5 => no k hk (by have : p.tag k = 5 := h5; omega)), H.va, hc.heap H.ablk (nb H.ablk (by have := H.atag; omega)), H.atag, H.rl, H.al, H.vm,
    fun q hq => hc.own (H.rown q hq) (fun k hk => no k ((H.rown q hq).lt k hk).2 (by have := H.rtag q hq k hk; omega)), H.rtag⟩
/-- What a part of the fixed ones becomes, the others standing. -/
theorem BSt.count {p : WPar} {w w' : World} {lf : List Int} {b b' : Bool} {yv yv' : Value} {rdy rdy' : List Int} {us rows : List Value} {ga : Nat} (H : BSt p w lf b yv rdy us rows ga) (h : WSt p w' [] lf (falses p.n) (falses p.V) b' nilS yv' rdy') (hc : Ch w w' (fun k => ¬ 5 ≤ p.tag k)) : BSt p w' lf b' yv' rdy' us rows ga :=
  ⟨h, hc.own H.cown (fun k hk hn => hn (by have := H.ctag k hk; omega)), H.ctag, H.ci.keep IRow.keeps (hc.same _ fun k _ h5 hn => hn (by have : p.tag k = 5 := h5; omega)), H.va, hc.heap H.ablk (fun hn => hn (by have := H.atag; omega)), H.atag, H.rl, H.al, H.vm,
    fun q hq => hc.own (H.rown q hq) (fun k hk hn => hn (by have := H.rtag q hq k hk; omega)), H.rtag⟩
theorem BSt.left {p : WPar} {w : World} {lf : List Int} {b : Bool} {yv : Value} {rdy : List Int} {us rows : List Value} {ga : Nat} (H : BSt p w lf b yv rdy us rows ga) (i : Nat) (x : Int) : BSt p (w.setCell ⟨p.gl, i, none⟩ (.int .i64 x)) (lf.set i x) b yv rdy us rows ga := by
  have hc : Ch w (w.setCell ⟨p.gl, i, none⟩ (.int .i64 x)) (fun k => k = p.gl) := (Ch.refl w (fun k => k = p.gl)).setCell (p := ⟨p.gl, i, none⟩) rfl _
  have t := H.st.tg
  have no : ∀ k, p.tag k ≠ 2 → ¬ k = p.gl := fun k h e => h (by rw [e]; exact t.2.1)
  exact ⟨H.st.left_set i x, hc.own H.cown (fun k hk => no k (by have := H.ctag k hk; omega)), H.ctag, H.ci.keep IRow.keeps (hc.same _ fun k _ h5 => no k (by have : p.tag k = 5 := h5; omega)), H.va, hc.heap H.ablk (no _ (by have := H.atag; omega)), H.atag, H.rl, H.al, H.vm,
    fun q hq => hc.own (H.rown q hq) (fun k hk => no k (by have := H.rtag q hq k hk; omega)), H.rtag⟩
end Go.Proofs.Ytapaoccpbcjgeaa

/- cnf: a walk while it begins: a clause more; a clause more of a literal. -/
namespace Go.Proofs.Ytapaoccpbcjgeaa
open Go.RowKit Go.BigFrame
open Cnf (at_ Heaped litB leftL heldB)

theorem OutS.weak' {α : Type} {R : World → (Nat → Prop) → Value → α → Prop} (K : Keeps R) {w : World} {S S' : Nat → Prop} {v : Value} {r : List α} (h : OutS R w S v r) (hw : ∀ b, b < w.heap.size → S b → S' b) : OutS R w S' v r := by
  obtain ⟨vs, h1, h2⟩ := h
  exact ⟨vs, h1.weak hw, h2.weak K hw⟩
def clauseP (p : WPar) (vc u : Value) (D : List Int) : WPar := { p with vc := vc, ds := p.ds ++ [D], tag := tagv (tagv p.tag u 5) vc 6 }
theorem BSt.clause {p : WPar} {w w3 : World} {lf : List Int} {b : Bool} {yv : Value} {rdy : List Int} {us rows : List Value} {ga : Nat} (H : BSt p w lf b yv rdy us rows ga) {u vc' : Value} {D : List Int}
    (hu : w.ownsRow p.base 3 1 u D.length (ints D)) (hut : ∀ k, u.ownBlock = some k → p.tag k = 0 ∧ yv.ownBlock ≠ some k)
    (ho : w3.ownsRow p.base 35 1 vc' (us ++ [u]).length (us ++ [u])) (hc : Ch w w3 (fun k => p.vc.ownBlock = some k)) (hm : Moved w p.vc vc') :
    BSt (clauseP p vc' u D) (w3.setCell ⟨p.g, 0, none⟩ vc') lf b yv rdy (us ++ [u]) rows ga := by
  have t := H.st.tg
  have hv : ∀ k, vc'.ownBlock = some k → p.tag k = 6 ∨ (p.tag k = 0 ∧ w.heap.size ≤ k) := fun k hk => by
    rcases hm with e | ⟨q, e, hq⟩
    · exact .inl (H.ctag k (by rw [← e]; exact hk))
    · rw [e] at hk; cases hk; exact .inr ⟨H.st.fresh _ hq, hq⟩
  have tm : ∀ k, p.tag k ≠ 0 → (clauseP p vc' u D).tag k = p.tag k := fun k h0 => by
    show tagv (tagv p.tag u 5) vc' 6 k = p.tag k
    by_cases c : vc'.ownBlock = some k
    · rw [tagv_at c]
      rcases hv k c with h | ⟨h, _⟩
      · exact h.symm
      · exact absurd h h0
    · rw [tagv_no c]
      exact tagv_no fun e => h0 (hut k e).1
  have tf : ∀ k, p.tag k = 0 → u.ownBlock ≠ some k → vc'.ownBlock ≠ some k → (clauseP p vc' u D).tag k = 0 := fun k h0 h1 h2 => by
    show tagv (tagv p.tag u 5) vc' 6 k = 0
    rw [tagv_no h2, tagv_no h1]; exact h0
  have tge : ∀ k, 5 ≤ p.tag k → 5 ≤ (clauseP p vc' u D).tag k := fun k h => by rw [tm k (by omega)]; exact h
  have hz : (w3.setCell ⟨p.g, 0, none⟩ vc').heap.size = w3.heap.size := by simp
  have hcb : Ch w w3 (fun k => p.vc.ownBlock = some k) := hc
  have hc2 : Ch w (w3.setCell ⟨p.g, 0, none⟩ vc') (fun k => k = p.g ∨ p.vc.ownBlock = some k) := (hc.weak fun k _ h => .inr h).setCell (p := ⟨p.g, 0, none⟩) (.inl rfl) _
  have no : ∀ k, p.tag k ≠ 1 → p.tag k ≠ 6 → ¬ (k = p.g ∨ p.vc.ownBlock = some k) := by
    rintro k h1 h6 (e | e)
    · rw [e] at h1; omega
    · exact h6 (H.ctag k e)
  have hg3 := hcb.heap H.st.blk (fun e => by have := H.ctag _ e; omega)
  have hvg : ∀ k, p.tag k ≠ 0 → p.tag k ≠ 6 → vc'.ownBlock ≠ some k := fun k h0 h6 e => by
    rcases hv k e with h | ⟨h, _⟩ <;> omega
  have hcow : (w3.setCell ⟨p.g, 0, none⟩ vc').ownsRow p.base 35 1 vc' (us ++ [u]).length (us ++ [u]) := ownsRow_setCell_other ho (a := ⟨p.g, 0, none⟩) (hvg p.g (by omega) (by omega)) vc'
  have hu2 : (w3.setCell ⟨p.g, 0, none⟩ vc').ownsRow p.base 3 1 u D.length (ints D) := hc2.own hu fun k hk => no k (by have := (hut k hk).1; omega) (by have := (hut k hk).1; omega)
  have hci : ItemsS IRow (w3.setCell ⟨p.g, 0, none⟩ vc') (fun k => (clauseP p vc' u D).tag k = 5) (us ++ [u]) (p.ds ++ [D]) := by
    refine ItemsS.snoc ((H.ci.keep IRow.keeps (hc2.same _ fun k _ h5 => no k (by have : p.tag k = 5 := h5; omega) (by have : p.tag k = 5 := h5; omega))).weak IRow.keeps fun k _ h => (tm k (by have : p.tag k = 5 := h; omega)).trans h) ?_
    obtain ⟨A, cap, hv', h1, h2, h3, h4⟩ := RdS.own hu2
    refine ⟨A, cap, hv', h1, h2, h3, fun h0 => ?_⟩
    obtain ⟨ad, rfl, ha, hb, hcc⟩ := h4 h0
    have hub : u.ownBlock = some ad.block := by rw [hv']; rfl
    refine ⟨ad, rfl, ha, ?_, hcc⟩
    show tagv (tagv p.tag u 5) vc' 6 ad.block = 5
    rw [tagv_no, tagv_at hub]
    intro e
    rcases hv _ e with h | ⟨_, h⟩
    · have := (hut _ hub).1; omega
    · have := (hu.lt _ hub).2; omega
  have hcl : OutS IRow (w3.setCell ⟨p.g, 0, none⟩ vc') (clauseP p vc' u D).St vc' (p.ds ++ [D]) := out_cl (p := clauseP p vc' u D) hcow (fun k hk => tagv_at hk) hci
  have hroww : ∀ q, q < p.V → (w3.setCell ⟨p.g, 0, none⟩ vc').ownsRow p.base 3 1 (rows.getD q nilS) (p.ams.getD q []).length (ints (p.ams.getD q [])) := fun q hq => hc2.own (H.rown q hq) (fun k hk => no k (by have := H.rtag q hq k hk; omega) (by have := H.rtag q hq k hk; omega))
  have hrtag : ∀ q, q < p.V → ∀ k, (rows.getD q nilS).ownBlock = some k → (clauseP p vc' u D).tag k = 10 + q := fun q hq k hk => by
    have := H.rtag q hq k hk
    rw [tm k (by omega)]; exact this
  have hablk := hc2.heap H.ablk (no _ (by have := H.atag; omega) (by have := H.atag; omega))
  have hatag : (clauseP p vc' u D).tag ga = 7 := by rw [tm ga (by have := H.atag; omega)]; exact H.atag
  have ham : OutS IRow (w3.setCell ⟨p.g, 0, none⟩ vc') (clauseP p vc' u D).St p.va p.ams := out_am (p := clauseP p vc' u D) H.va hablk hatag H.rl H.al H.vm hroww hrtag
  refine ⟨⟨?_, ⟨H.st.lo.1, H.st.lo.2.1, H.st.lo.2.2.1, H.st.lo.2.2.2.1, by rw [hz]; exact Nat.le_trans H.st.lo.2.2.2.2 hc.size⟩, ?_, blk_set hg3 0 _, hc2.heap H.st.left (no p.gl (by omega) (by omega)), hc2.heap H.st.holds (no p.gh (by omega) (by omega)), hc2.heap H.st.set (no p.gs (by omega) (by omega)),
    World.ownsRow_nil _ _ _ _, hc2.own H.st.rown ?_, H.st.heap, hcl, ham, ?_, ?_, ?_, H.st.ll, H.st.lh, H.st.ls⟩, hcow, fun k hk => tagv_at hk, hci, H.va, hablk, hatag, H.rl, H.al, H.vm, hroww, hrtag⟩
  · show (clauseP p vc' u D).tag p.g = 1 ∧ (clauseP p vc' u D).tag p.gl = 2 ∧ (clauseP p vc' u D).tag p.gh = 3 ∧ (clauseP p vc' u D).tag p.gs = 4
    rw [tm _ (by omega), tm _ (by omega), tm _ (by omega), tm _ (by omega)]; exact t
  · intro k hk
    rw [hz] at hk
    exact tf k (H.st.fresh k (Nat.le_trans hc.size hk)) (fun e => by have := (hu.lt k e).2; have := hc.size; omega) (fun e => by have := (ho.lt k e).2; omega)
  · intro k hk
    have h0 := H.st.yt k hk
    rintro (e | e)
    · rw [e] at h0; omega
    · have := H.ctag k e; omega
  · intro k hk; cases hk
  · intro k hk
    have h0 := H.st.yt k hk
    exact tf k h0 (fun e => (hut k e).2 hk) (fun e => by
      rcases hv k e with h | ⟨_, h⟩
      · omega
      · have := (H.st.rown.lt k hk).2; omega)
  · intro k hk; cases hk
def amongP (p : WPar) (q : Nat) (r : Value) (L : List Int) : WPar := { p with ams := p.ams.set q L, tag := tagv p.tag r (10 + q) }
theorem BSt.among {p : WPar} {w w3 : World} {lf : List Int} {b : Bool} {yv : Value} {rdy : List Int} {us rows : List Value} {ga : Nat} (H : BSt p w lf b yv rdy us rows ga) {q : Nat} (hq : q < p.V) {r' : Value} {L : List Int}
    (ho : w3.ownsRow p.base 3 1 r' L.length (ints L)) (hc : Ch w w3 (fun k => (rows.getD q nilS).ownBlock = some k)) (hm : Moved w (rows.getD q nilS) r') :
    BSt (amongP p q r' L) (w3.setCell ⟨ga, q, none⟩ r') lf b yv rdy us (rows.set q r') ga := by
  have t := H.st.tg
  have hv : ∀ k, r'.ownBlock = some k → p.tag k = 10 + q ∨ (p.tag k = 0 ∧ w.heap.size ≤ k) := fun k hk => by
    rcases hm with e | ⟨x, e, hx⟩
    · exact .inl (H.rtag q hq k (by rw [← e]; exact hk))
    · rw [e] at hk; cases hk; exact .inr ⟨H.st.fresh _ hx, hx⟩
  have tm : ∀ k, p.tag k ≠ 0 → (amongP p q r' L).tag k = p.tag k := fun k h0 => by
    show tagv p.tag r' (10 + q) k = p.tag k
    by_cases c : r'.ownBlock = some k
    · rw [tagv_at c]
      rcases hv k c with h | ⟨h, _⟩
      · exact h.symm
      · exact absurd h h0
    · exact tagv_no c
  have tf : ∀ k, p.tag k = 0 → r'.ownBlock ≠ some k → (amongP p q r' L).tag k = 0 := fun k h0 h2 => by
    show tagv p.tag r' (10 + q) k = 0
    rw [tagv_no h2]; exact h0
  have hz : (w3.setCell ⟨ga, q, none⟩ r').heap.size = w3.heap.size := by simp
  have hat := H.atag
  have hc2 : Ch w (w3.setCell ⟨ga, q, none⟩ r') (fun k => k = ga ∨ (rows.getD q nilS).ownBlock = some k) := (hc.weak fun k _ h => .inr h).setCell (p := ⟨ga, q, none⟩) (.inl rfl) _
  have no : ∀ k, p.tag k ≠ 7 → p.tag k ≠ 10 + q → ¬ (k = ga ∨ (rows.getD q nilS).ownBlock = some k) := by
    rintro k h1 h6 (e | e)
    · rw [e] at h1; omega
    · exact h6 (H.rtag q hq k e)
  have hvg : ∀ k, p.tag k ≠ 0 → p.tag k ≠ 10 + q → r'.ownBlock ≠ some k := fun k h0 h6 e => by
    rcases hv k e with h | ⟨h, _⟩ <;> omega
  have ha3 := hc.heap H.ablk (fun e => by have := H.rtag q hq _ e; omega)
  have hablk : (w3.setCell ⟨ga, q, none⟩ r').heap[ga]? = some (.cells (rows.set q r').toArray 35 (0, 0)) := by rw [blk_set ha3 q r', arr_set]
  have hcow : (w3.setCell ⟨ga, q, none⟩ r').ownsRow p.base 35 1 p.vc us.length us := hc2.own H.cown fun k hk => no k (by have := H.ctag k hk; omega) (by have := H.ctag k hk; omega)
  have hci : ItemsS IRow (w3.setCell ⟨ga, q, none⟩ r') (fun k => (amongP p q r' L).tag k = 5) us p.ds :=
    (H.ci.keep IRow.keeps (hc2.same _ fun k _ h5 => no k (by have : p.tag k = 5 := h5; omega) (by have : p.tag k = 5 := h5; omega))).weak IRow.keeps fun k _ h => (tm k (by have : p.tag k = 5 := h; omega)).trans h
  have hcl : OutS IRow (w3.setCell ⟨ga, q, none⟩ r') (amongP p q r' L).St p.vc p.ds := out_cl (p := amongP p q r' L) hcow (fun k hk => (tm k (by have := H.ctag k hk; omega)).trans (H.ctag k hk)) hci
  have hroww : ∀ j, j < p.V → (w3.setCell ⟨ga, q, none⟩ r').ownsRow p.base 3 1 ((rows.set q r').getD j nilS) ((p.ams.set q L).getD j []).length (ints ((p.ams.set q L).getD j [])) := fun j hj => by
    rw [getD_set _ _ _ _ _ (by rw [H.rl]; exact hj), getD_set _ _ _ _ _ (by rw [H.al]; exact hj)]
    by_cases c : q = j
    · rw [if_pos c, if_pos c]
      exact ownsRow_setCell_other ho (a := ⟨ga, q, none⟩) (hvg ga (by omega) (by omega)) r'
    · rw [if_neg c, if_neg c]
      exact hc2.own (H.rown j hj) (fun k hk => no k (by have := H.rtag j hj k hk; omega) (by have := H.rtag j hj k hk; omega))
  have hrtag : ∀ j, j < p.V → ∀ k, ((rows.set q r').getD j nilS).ownBlock = some k → (amongP p q r' L).tag k = 10 + j := fun j hj k hk => by
    rw [getD_set _ _ _ _ _ (by rw [H.rl]; exact hj)] at hk
    by_cases c : q = j
    · rw [if_pos c] at hk
      rw [← c]; exact tagv_at hk
    · rw [if_neg c] at hk
      have := H.rtag j hj k hk
      rw [tm k (by omega)]; exact this
  have hatag : (amongP p q r' L).tag ga = 7 := by rw [tm ga (by omega)]; exact hat
  have hal : (p.ams.set q L).length = p.V := by rw [List.length_set]; exact H.al
  have hrl : (rows.set q r').length = p.V := by rw [List.length_set]; exact H.rl
  have ham : OutS IRow (w3.setCell ⟨ga, q, none⟩ r') (amongP p q r' L).St p.va (p.ams.set q L) := out_am (p := amongP p q r' L) H.va hablk hatag hrl hal H.vm hroww hrtag
  refine ⟨⟨?_, ⟨H.st.lo.1, H.st.lo.2.1, H.st.lo.2.2.1, H.st.lo.2.2.2.1, by rw [hz]; exact Nat.le_trans H.st.lo.2.2.2.2 hc.size⟩, ?_, hc2.heap H.st.blk (no p.g (by omega) (by omega)), hc2.heap H.st.left (no p.gl (by omega) (by omega)), hc2.heap H.st.holds (no p.gh (by omega) (by omega)), hc2.heap H.st.set (no p.gs (by omega) (by omega)),
    World.ownsRow_nil _ _ _ _, hc2.own H.st.rown ?_, H.st.heap, hcl, ham, ?_, ?_, ?_, H.st.ll, H.st.lh, H.st.ls⟩, hcow, fun k hk => (tm k (by have := H.ctag k hk; omega)).trans (H.ctag k hk), hci, H.va, hablk, hatag, hrl, hal, H.vm, hroww, hrtag⟩
  · show (amongP p q r' L).tag p.g = 1 ∧ (amongP p q r' L).tag p.gl = 2 ∧ (amongP p q r' L).tag p.gh = 3 ∧ (amongP p q r' L).tag p.gs = 4
    rw [tm _ (by omega), tm _ (by omega), tm _ (by omega), tm _ (by omega)]; exact t
  · intro k hk
    rw [hz] at hk
    exact tf k (H.st.fresh k (Nat.le_trans hc.size hk)) (fun e => by have := (ho.lt k e).2; omega)
  · intro k hk
    have h0 := H.st.yt k hk
    rintro (e | e)
    · rw [e] at h0; omega
    · have := H.rtag q hq k e; omega
  · intro k hk; cases hk
  · intro k hk
    have h0 := H.st.yt k hk
    exact tf k h0 (fun e => by
      rcases hv k e with h | ⟨_, h⟩
      · omega
      · have := (H.st.rown.lt k hk).2; omega)
  · intro k hk; cases hk
end Go.Proofs.Ytapaoccpbcjgeaa
