/- files: insert. -/
import Derived.Test.YtcleebigfbbdbaaFilQa
import Derived.Test.YtcleebigfbbdbaaFmU
set_option linter.unusedVariables false
set_option linter.unusedSimpArgs false
namespace Go.Proofs.Ytcleebigfbbdbaa
open Go Go.RowKit Go.BigFrame
open Fil (Es Nd Sp)

theorem infoEnt : (Try.prog.info? 42).map (fun i => (i.zero, i.size, i.bytes)) = some (some (.agg #[.string ⟨#[]⟩, .int .u8 0, .string ⟨#[]⟩, .slice none 0 0]), 4, 64) := by kernel_rfl
/-- append to a row of the call's own, of what another slice holds, which may be nil. -/
theorem wpList_app_opt {P : Program} {w : World} {ops : Array Oper} {rest : List Oper} {o : Oper} {a : Act} {Q : Exit → Act → World → Prop} (hgd : o.guard = none) (s x : Operand) (t : TypeId)
    (ho : o.op = .call { callee := .builtin .append, args := #[s, x], argTypes := #[t, t] })
    (base : Nat) (e : TypeId) (i : TypeInfo) (z : Value) (size bytes : Nat) (ht : P.underlying t = some (.slice e)) (hi : P.info? e = some i) (hz : i.zero = some z) (hs1 : i.size = size) (hb1 : i.bytes = bytes) (hzs : z.cells.size = size) (hsz : 0 < size)
    (v : Value) (n : Nat) (xs : List Value) (hs : a.eval s = v) (hown : w.ownsRow base e size v n xs) (A : Option Addr) (m c : Nat) (news : List Value) (hx : a.eval x = .slice A m c) (hA : A = none → c = 0) (hmc : m ≤ c) (hl : news.length = m * size)
    (hnews : ∀ ad, A = some ad → ∀ j u, news[j]? = some u → w.cell? (ad.add j) = some u) (h1 : ∀ u ∈ news, u.oneCell' = true)
    (h63 : n + m ≤ maxLen) (hbytes : (n + m) * bytes ≤ 140737488355328) (hbase : base ≤ w.heap.size)
    (h : ∀ v' w', w'.ownsRow base e size v' (n + m) (xs ++ news) → w.grownBy w' v.ownBlock → wpList P ops Q rest (a.put o.dst v') w') : wpList P ops Q (o :: rest) a w := by
  cases A with
  | none =>
    have hc := hA rfl
    subst hc
    obtain rfl : m = 0 := by omega
    obtain rfl : news = [] := List.eq_nil_of_length_eq_zero (by simpa using hl)
    refine wpList_append_own_none hgd s x t ho base e i size ht hi v n xs hs hown hx ?_
    exact h v w (by simpa using hown) (World.grownBy.refl w _)
  | some ad =>
    exact wpList_append_own w hgd s x t ho base e i z size bytes ht hi hz hs1 hb1 hzs hsz v n xs hs hown ad m c news hx hl (hnews ad rfl) h1 h63 hbytes hbase fun v' w' h2 h3 _ => h v' w' h2 h3
theorem es_row {w : World} {B : Nat} {A : Option Addr} {c : Nat} {es : Es} (h : EsAt w B (.slice A es.len c) es) :
    ∃ xs, EntL w B es xs ∧ (∀ ad, A = some ad → ad.block < B ∨ es.len = 0) ∧ (∀ ad, A = some ad → ∀ j u, xs[j]? = some u → w.cell? (ad.add j) = some u) ∧ (A = none → c = 0) := by
  have hn : A = none → c = 0 := by
    obtain ⟨A', c', e, _, _, h4, _⟩ := h
    injection e with e1 e2 e3
    rw [e1, e3]; exact h4
  rcases Nat.eq_zero_or_pos es.len with h0 | hp
  · have hE : es = .nil := by
      cases es with
      | nil => rfl
      | cons _ _ _ _ _ => simp [Es.len] at h0
    exact ⟨[], by rw [hE]; rfl, fun _ _ => .inr h0, fun _ _ j u hu => by simp at hu, hn⟩
  · obtain ⟨ab, ao, rfl, hlt, hcs⟩ := es_addr h hp
    obtain ⟨xs, h1, h2⟩ := cells_ents hcs
    refine ⟨xs, h1, fun ad e => ?_, fun ad e j u hu => ?_, hn⟩
    · cases e; exact .inl hlt
    · cases e; rw [add_none]; exact h2 j u hu
/-- What is behind a row's beginning, in memory. -/
theorem row_behind {w : World} {A : Option Addr} {c i : Nat} {xs : List Value} (hxs : xs.length ≤ 4 * c) (h : ∀ ad, A = some ad → ∀ j u, xs[j]? = some u → w.cell? (ad.add j) = some u) (hA : A = none → c = 0) (hic : i ≤ c) :
    (∀ ad, (if c = i then A else A.map (fun x => x.add (i * 4))) = some ad → ∀ j u, (xs.drop (4 * i))[j]? = some u → w.cell? (ad.add j) = some u) ∧ ((if c = i then A else A.map (fun x => x.add (i * 4))) = none → c - i = 0) := by
  refine ⟨fun ad he j u hu => ?_, fun he => ?_⟩
  · rw [List.getElem?_drop] at hu
    have hlt : 4 * i + j < xs.length := (List.getElem?_eq_some_iff.1 hu).1
    rw [if_neg (by omega)] at he
    cases A with
    | none => cases he
    | some a =>
      cases he
      rw [add_two, show i * 4 + j = 4 * i + j by omega]
      exact h a rfl _ _ hu
  · split at he
    · omega
    · cases A with
      | none => have := hA rfl; omega
      | some a => cases he
theorem ownE_cells {w : World} {base n : Nat} {v : Value} {es : Es} {xs : List Value} {B : Nat} (h : w.ownsRow base 42 4 v n xs) (hn : n = es.len) (hl : EntL w B es xs) (hB : B ≤ w.heap.size) (hb : n ≤ maxLen) : EsAt w w.heap.size v es := by
  subst hn
  rcases h.2 with ⟨rfl, h0⟩ | ⟨g, cap, cur, rfl, hg, hgg, hnc, hcm, hcs, htk⟩
  · exact ⟨none, 0, by rw [h0], by omega, Nat.zero_le _, fun _ => rfl, fun hp => by omega⟩
  · refine ⟨_, _, rfl, hnc, hcm, (fun e => by cases e), fun _ => ⟨_, rfl, block_lt hgg, ents_cells (hl.more hB) fun j u hu => ?_⟩⟩
    have := h.cells (g := g) rfl j u hu
    rwa [add_none] at this
theorem cells_drop {w : World} {B : Nat} : ∀ {es : Es} {ab ao : Nat} (i : Nat), CellsAt w B es ⟨ab, ao, none⟩ → CellsAt w B (dropE i es) ⟨ab, ao + i * 4, none⟩
  | es, ab, ao, 0, h => by simpa [dropE] using h
  | .nil, _, _, i + 1, _ => trivial
  | .cons nm k d s nx, ab, ao, i + 1, h => by
    obtain ⟨_, _, _, _, _, _, _, h11⟩ := h
    rw [add_none] at h11
    have := cells_drop i h11
    rw [show ao + 4 + i * 4 = ao + (i + 1) * 4 by omega] at this
    exact this
theorem take_get {xs : List Value} {n j : Nat} {u : Value} (h : (xs.take n)[j]? = some u) : xs[j]? = some u := by
  rw [List.getElem?_take] at h
  split at h
  · exact h
  · cases h
theorem behind_lt {A : Option Addr} {B n k : Nat} (h : ∀ ad, A = some ad → ad.block < B ∨ n = 0) {ad : Addr} (e : A.map (fun x => x.add k) = some ad) (hn : 0 < n) {m : Nat} (hm : B ≤ m) : ad.block < m + 3 := by
  cases A with
  | none => cases e
  | some a =>
    cases e
    rw [add_block]
    rcases h a rfl with h | h <;> omega
theorem own_at4 {w : World} {base n : Nat} {e : TypeId} {v : Value} {xs : List Value} (h : w.ownsRow base e 4 v n xs) (hn : 0 < n) : ∃ g cap, v = .slice (some ⟨g, 0, none⟩) n cap := by
  rcases h.2 with ⟨_, e⟩ | ⟨g, cap, cur, rfl, _⟩
  · omega
  · exact ⟨g, cap, rfl⟩
theorem four_cells {w : World} {g : Nat} {T : TypeId} {xs : List Value} (h : w.heap[g]? = some (.cells xs.toArray T (0, 0))) : ∀ j u, xs[j]? = some u → w.cell? ((⟨g, 0, none⟩ : Addr).add j) = some u := fun j u hu => row_cells h j u (by simpa using hu)
end Go.Proofs.Ytcleebigfbbdbaa
