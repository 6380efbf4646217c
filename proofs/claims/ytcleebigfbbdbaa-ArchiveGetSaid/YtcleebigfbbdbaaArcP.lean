/- archive: bytes of trees, in plain maths; appends to a row in which there is room. -/
import Derived.Test.YtcleebigfbbdbaaFilSi
import Derived.Test.YtcleebigfbbdbaaFilRa
import Derived.Lib.AppendStr
import Derived.Room.AppendFits
set_option linter.unusedVariables false
set_option linter.unusedSimpArgs false
namespace Go.Proofs.Ytcleebigfbbdbaa
open Go Go.RowKit Go.BigFrame
open Fil (Es Nd Sp)
namespace Arc

abbrev BL := List UInt8
def num4 (n : Nat) : BL := [UInt8.ofNat (n / 16777216), UInt8.ofNat (n / 65536), UInt8.ofNat (n / 256), UInt8.ofNat n]
def num2 (n : Nat) : BL := [UInt8.ofNat (n / 256), UInt8.ofNat n]
def encT (s : ByteArray) : BL := num4 s.size ++ s.data.toList
def letK (k : Nat) : UInt8 := if k = 1 then 70 else if k = 2 then 88 else if k = 3 then 76 else 68
def encE : Es → BL
  | .nil => []
  | .cons nm k d s nx => encT nm ++ ((letK k :: (if k = 4 then num2 s.len ++ encE s else encT d)) ++ encE nx)
def encN (nd : Nd) : BL := letK nd.k :: (if nd.k = 4 then num2 nd.es.len ++ encE nd.es else encT nd.d)
def sizE : Es → Nat
  | .nil => 0
  | .cons nm k d s nx => 4 + nm.size + (if k = 4 then 3 + sizE s else 5 + d.size) + sizE nx
def sizN (nd : Nd) : Nat := if nd.k = 4 then 3 + sizE nd.es else 5 + nd.d.size
theorem encE_cons (nm : ByteArray) (k : Nat) (d : ByteArray) (s nx : Es) : encE (.cons nm k d s nx) = encT nm ++ (encN ⟨k, d, s⟩ ++ encE nx) := rfl
theorem sizE_cons (nm : ByteArray) (k : Nat) (d : ByteArray) (s nx : Es) : sizE (.cons nm k d s nx) = 4 + nm.size + sizN ⟨k, d, s⟩ + sizE nx := rfl
theorem encT_len (s : ByteArray) : (encT s).length = 4 + s.size := by
  have := Lib.size_eq s
  unfold encT num4
  simp; omega
mutual
theorem encE_len : ∀ es : Es, (encE es).length = sizE es
  | .nil => rfl
  | .cons nm k d s nx => by
    rw [encE_cons, sizE_cons, List.length_append, List.length_append, encT_len, encE_len nx]
    have hN : (encN ⟨k, d, s⟩).length = sizN ⟨k, d, s⟩ := by
      unfold encN sizN
      simp only [List.length_cons]
      split
      · rw [List.length_append, encE_len s]; unfold num2; simp; omega
      · rw [encT_len]; omega
    rw [hN]; omega
end
theorem encN_len (nd : Nd) : (encN nd).length = sizN nd := by
  unfold encN sizN
  simp only [List.length_cons]
  split
  · rw [List.length_append, encE_len]; unfold num2; simp; omega
  · rw [encT_len]; omega
/-- How large a row of entries may be, each of which may be. -/
theorem sizE_le : ∀ (es : Es) (last : ByteArray), Fil.namesB last es = true → es.may = true → sizE es ≤ es.count * 65800
  | .nil, _, _, _ => Nat.zero_le _
  | .cons nm k d s nx, last, hn, hm => by
    simp only [Fil.namesB, Bool.and_eq_true] at hn
    simp only [Es.may, Bool.and_eq_true] at hm
    have h1 := sizE_le s _ (Fil.kids_names hm.1.1) hm.1.2
    have h2 := sizE_le nx _ hn.2 hm.2
    have h3 := Fil.nameB_size hn.1.2
    rw [sizE_cons]
    unfold sizN
    have hc : (Es.cons nm k d s nx).count = 1 + s.count + nx.count := rfl
    rw [hc]
    have hd : d.size ≤ 65536 := by
      have h := hm.1.1
      unfold Fil.okB at h
      split at h
      · simp at h; exact h.1
      · split at h
        · simp at h; omega
        · split at h
          · rw [Bool.and_eq_true, decide_eq_true_eq] at h; omega
          · cases h
    split <;> dsimp only <;> omega
theorem sizN_le {nd : Nd} (h : nd.right = true) : sizN nd ≤ 300000000 := by
  unfold Fil.Nd.right at h
  simp only [Bool.and_eq_true, decide_eq_true_eq] at h
  obtain ⟨⟨hc, _⟩, hm⟩ := h
  unfold Fil.Nd.may at hm
  rw [Bool.and_eq_true] at hm
  have h1 := sizE_le nd.es _ (Fil.kids_names hm.1) hm.2
  have hd : nd.d.size ≤ 65536 := by
    have h := hm.1
    unfold Fil.okB at h
    split at h
    · simp at h; exact h.1
    · split at h
      · simp at h; omega
      · split at h
        · rw [Bool.and_eq_true, decide_eq_true_eq] at h; omega
        · cases h
  unfold Fil.Nd.count at hc
  unfold sizN
  split <;> omega
end Arc
open Arc (BL num4 num2 encT letK encE encN sizE sizN)
/-- Bytes as cells. -/
def valB (l : BL) : List Value := l.map fun c => Value.int .u8 (c.toNat : Int)
theorem valB_app (a b : BL) : valB (a ++ b) = valB a ++ valB b := List.map_append
theorem valB_len (l : BL) : (valB l).length = l.length := List.length_map _
theorem valB_one (l : BL) : ∀ u ∈ valB l, u.oneCell' = true := by
  intro u hu
  obtain ⟨c, _, rfl⟩ := List.mem_map.1 hu
  rfl
theorem strCells_valB (s : ByteArray) : Lib.strCells s = valB s.data.toList := by
  unfold Lib.strCells valB
  rfl
section
variable {P : Program} (w : World)
theorem wp_append_fits {o : Oper} {a : Act} {K : Act → World → Prop} {Q : Exit → Act → World → Prop} (s x : Operand) (t : TypeId)
    (ho : o.op = .call { callee := .builtin .append, args := #[s, x], argTypes := #[t, t] })
    (base : Nat) (e : TypeId) (i : TypeInfo) (ht : P.underlying t = some (.slice e)) (hi : P.info? e = some i) (hsize : i.size = 1)
    (g n cap : Nat) (xs : List Value) (hs : a.eval s = .slice (some ⟨g, 0, none⟩) n cap) (hown : w.ownsRow base e 1 (.slice (some ⟨g, 0, none⟩) n cap) n xs)
    (ad : Addr) (m c : Nat) (news : List Value) (hx : a.eval x = .slice (some ad) m c) (hl : news.length = m) (hnews : ∀ j u, news[j]? = some u → w.cell? (ad.add j) = some u) (h1 : ∀ u ∈ news, u.oneCell' = true)
    (hroom : n + m ≤ cap)
    (h : ∀ w', w'.ownsRow base e 1 (.slice (some ⟨g, 0, none⟩) (n + m) cap) (n + m) (xs ++ news) → w.grownBy w' (some g) → w'.heap.size = w.heap.size → K (a.put o.dst (.slice (some ⟨g, 0, none⟩) (n + m) cap)) w') : o.wp P a w K Q := by
  have hxl : xs.length = n := by simpa using hown.1
  rcases hown.2 with ⟨hv, _⟩ | ⟨g', cap', cur, hv, hbg, hg, hnc, hcm, hcs, htake⟩
  · cases hv
  · cases hv
    have hcs' : cur.size = cap := by simpa using hcs
    have hr := run_append_room (P := P) w t o.type e i ht hi g n cap cur hg ad m c news (by rw [hsize, hl]; omega) hnews h1 hroom (by rw [hsize, hl, hcs']; omega)
    rw [hsize] at hr
    unfold Oper.wp execOp
    simp only [ho, resolve, invoke, builtin, Sem.run_bind, Sem.run_pure, Result.andThen_ok, List.map_toArray, List.map_cons, List.map_nil, hs, hx, hr]
    refine h _ ⟨by rw [List.length_append, hl, hxl]; omega, .inr ⟨g, cap, _, rfl, hbg, setRow_heap w g cur _ e _ hg, hroom, hcm, ?_, ?_⟩⟩ ⟨rfl, rfl, rfl, by simp, fun k _ hk => setRow_other w g k _ (fun e => hk (by simp [e]))⟩ (by simp)
    · simp only [List.size_toArray, List.length_append, List.length_take, List.length_drop, Array.length_toList, Nat.mul_one, hl]
      omega
    · have ht' : cur.toList.take n = xs := by simpa using htake
      simp only [Nat.mul_one, ht']
      show List.take (n + m) (xs ++ news ++ _) = _
      exact List.take_left' (by rw [List.length_append, hl, hxl])
theorem wpList_append_fits {ops : Array Oper} {rest : List Oper} {o : Oper} {a : Act} {Q : Exit → Act → World → Prop} (hgd : o.guard = none) (s x : Operand) (t : TypeId)
    (ho : o.op = .call { callee := .builtin .append, args := #[s, x], argTypes := #[t, t] })
    (base : Nat) (e : TypeId) (i : TypeInfo) (ht : P.underlying t = some (.slice e)) (hi : P.info? e = some i) (hsize : i.size = 1)
    (g n cap : Nat) (xs : List Value) (hs : a.eval s = .slice (some ⟨g, 0, none⟩) n cap) (hown : w.ownsRow base e 1 (.slice (some ⟨g, 0, none⟩) n cap) n xs)
    (ad : Addr) (m c : Nat) (news : List Value) (hx : a.eval x = .slice (some ad) m c) (hl : news.length = m) (hnews : ∀ j u, news[j]? = some u → w.cell? (ad.add j) = some u) (h1 : ∀ u ∈ news, u.oneCell' = true)
    (hroom : n + m ≤ cap)
    (h : ∀ w', w'.ownsRow base e 1 (.slice (some ⟨g, 0, none⟩) (n + m) cap) (n + m) (xs ++ news) → w.grownBy w' (some g) → w'.heap.size = w.heap.size → wpList P ops Q rest (a.put o.dst (.slice (some ⟨g, 0, none⟩) (n + m) cap)) w') : wpList P ops Q (o :: rest) a w :=
  wpList_plain hgd fun _ hK => wp_append_fits w s x t ho base e i ht hi hsize g n cap xs hs hown ad m c news hx hl hnews h1 hroom fun w' h2 h3 h4 => hK _ _ (h w' h2 h3 h4)
theorem step_append_fits {ops : Array Oper} {o : Oper} {a : Act} {K : Act → World → Prop} {Q : Exit → Act → World → Prop} {E : Prop} (hgd : o.guard = none) (s x : Operand) (t : TypeId)
    (ho : o.op = .call { callee := .builtin .append, args := #[s, x], argTypes := #[t, t] })
    (base : Nat) (e : TypeId) (i : TypeInfo) (ht : P.underlying t = some (.slice e)) (hi : P.info? e = some i) (hsize : i.size = 1)
    (g n cap : Nat) (xs : List Value) (hs : a.eval s = .slice (some ⟨g, 0, none⟩) n cap) (hown : w.ownsRow base e 1 (.slice (some ⟨g, 0, none⟩) n cap) n xs)
    (ad : Addr) (m c : Nat) (news : List Value) (hx : a.eval x = .slice (some ad) m c) (hl : news.length = m) (hnews : ∀ j u, news[j]? = some u → w.cell? (ad.add j) = some u) (h1 : ∀ u ∈ news, u.oneCell' = true)
    (hroom : n + m ≤ cap)
    (h : ∀ w', w'.ownsRow base e 1 (.slice (some ⟨g, 0, none⟩) (n + m) cap) (n + m) (xs ++ news) → w.grownBy w' (some g) → w'.heap.size = w.heap.size → K (a.put o.dst (.slice (some ⟨g, 0, none⟩) (n + m) cap)) w') :
    if Region.wanted o (yielded ops a.tmps) = true then Oper.wp P o a w K Q else E := by
  have hw : Region.wanted o (yielded ops a.tmps) = true := by simp [Region.wanted, hgd]
  rw [if_pos hw]
  exact wp_append_fits w s x t ho base e i ht hi hsize g n cap xs hs hown ad m c news hx hl hnews h1 hroom h
end
end Go.Proofs.Ytcleebigfbbdbaa
