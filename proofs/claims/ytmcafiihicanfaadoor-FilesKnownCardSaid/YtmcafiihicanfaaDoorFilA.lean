/- files: trees in memory. -/
import Derived.Test.YtmcafiihicanfaaDoorFilP
import Derived.Test.YtmcafiihicanfaaDoorFmA
set_option linter.unusedVariables false
set_option linter.unusedSimpArgs false
namespace Go.Proofs.YtmcafiihicanfaaDoor
open Go.RowKit Go.BigFrame
open Fil (Es Nd Sp)

/-- A row of entries lies at an address: four cells an entry; the rows of those below lie below B too. -/
def CellsAt (w : World) (B : Nat) : Es → Addr → Prop
  | .nil, _ => True
  | .cons nm k d s n, ad => w.cell? ad = some (.string nm) ∧ w.cell? (ad.add 1) = some (.int .u8 (k : Int)) ∧ w.cell? (ad.add 2) = some (.string d) ∧ nm.size ≤ maxLen ∧ d.size ≤ maxLen ∧ k < 256 ∧
      (∃ (A : Option Addr) (cap : Nat), w.cell? (ad.add 3) = some (.slice A s.len cap) ∧ s.len ≤ cap ∧ cap ≤ maxLen ∧ (A = none → cap = 0) ∧ (0 < s.len → ∃ a, A = some a ∧ a.block < B ∧ CellsAt w B s a)) ∧ CellsAt w B n (ad.add 4)
/-- A slice of entries. -/
def EsAt (w : World) (B : Nat) (v : Value) (e : Es) : Prop :=
  ∃ (A : Option Addr) (cap : Nat), v = .slice A e.len cap ∧ e.len ≤ cap ∧ cap ≤ maxLen ∧ (A = none → cap = 0) ∧ (0 < e.len → ∃ a, A = some a ∧ a.block < B ∧ CellsAt w B e a)
/-- A node as a value. -/
def NdV (w : World) (B : Nat) (v : Value) (n : Nd) : Prop :=
  ∃ ev, v = .agg #[.int .u8 (n.k : Int), .string n.d, ev] ∧ EsAt w B ev n.es ∧ n.d.size ≤ maxLen ∧ n.k < 256
/-- A node that lies at an address. -/
def NdAt (w : World) (B : Nat) (p : Addr) (n : Nd) : Prop :=
  p.block < B ∧ w.cell? p = some (.int .u8 (n.k : Int)) ∧ w.cell? (p.add 1) = some (.string n.d) ∧ (∃ ev, w.cell? (p.add 2) = some ev ∧ EsAt w B ev n.es) ∧ n.d.size ≤ maxLen ∧ n.k < 256
theorem addB (ad : Addr) (k : Nat) : (ad.add k).block = ad.block := by unfold Addr.add; by_cases h0 : k = 0 <;> simp [h0]
theorem CellsAt.keep {w w' : World} {B : Nat} (hb : Below B w w') : ∀ (e : Es) (ad : Addr), ad.block < B → CellsAt w B e ad → CellsAt w' B e ad
  | .nil, _, _, _ => trivial
  | .cons nm k d s n, ad, hlt, h => by
    obtain ⟨h0, h1, h2, h3, h4, h5, ⟨A, cap, h6, h7, h8, h9, h10⟩, h11⟩ := h
    refine ⟨(hb.cell hlt).trans h0, (hb.cell (by rw [addB]; exact hlt)).trans h1, (hb.cell (by rw [addB]; exact hlt)).trans h2, h3, h4, h5, ⟨A, cap, (hb.cell (by rw [addB]; exact hlt)).trans h6, h7, h8, h9, fun hp => ?_⟩, CellsAt.keep hb n _ (by rw [addB]; exact hlt) h11⟩
    obtain ⟨a, ha, hla, hc⟩ := h10 hp
    exact ⟨a, ha, hla, CellsAt.keep hb s a hla hc⟩
theorem EsAt.keep {w w' : World} {B : Nat} {v : Value} {e : Es} (h : EsAt w B v e) (hb : Below B w w') : EsAt w' B v e := by
  obtain ⟨A, cap, h1, h2, h3, h4, h5⟩ := h
  refine ⟨A, cap, h1, h2, h3, h4, fun hp => ?_⟩
  obtain ⟨a, ha, hla, hc⟩ := h5 hp
  exact ⟨a, ha, hla, CellsAt.keep hb e a hla hc⟩
theorem NdV.keep {w w' : World} {B : Nat} {v : Value} {n : Nd} (h : NdV w B v n) (hb : Below B w w') : NdV w' B v n := by
  obtain ⟨ev, h1, h2, h3⟩ := h
  exact ⟨ev, h1, h2.keep hb, h3⟩
theorem NdAt.keep {w w' : World} {B : Nat} {p : Addr} {n : Nd} (h : NdAt w B p n) (hb : Below B w w') : NdAt w' B p n := by
  obtain ⟨h0, h1, h2, ⟨ev, h3, h4⟩, h5⟩ := h
  exact ⟨h0, (hb.cell h0).trans h1, (hb.cell (by rw [addB]; exact h0)).trans h2, ⟨ev, (hb.cell (by rw [addB]; exact h0)).trans h3, h4.keep hb⟩, h5⟩
/-- More blocks count as old. -/
theorem CellsAt.more {w : World} {B B' : Nat} (hB : B ≤ B') : ∀ (e : Es) (ad : Addr), CellsAt w B e ad → CellsAt w B' e ad
  | .nil, _, _ => trivial
  | .cons nm k d s n, ad, h => by
    obtain ⟨h0, h1, h2, h3, h4, h5, ⟨A, cap, h6, h7, h8, h9, h10⟩, h11⟩ := h
    refine ⟨h0, h1, h2, h3, h4, h5, ⟨A, cap, h6, h7, h8, h9, fun hp => ?_⟩, CellsAt.more hB n _ h11⟩
    obtain ⟨a, ha, hla, hc⟩ := h10 hp
    exact ⟨a, ha, Nat.lt_of_lt_of_le hla hB, CellsAt.more hB s a hc⟩
theorem EsAt.more {w : World} {B B' : Nat} {v : Value} {e : Es} (h : EsAt w B v e) (hB : B ≤ B') : EsAt w B' v e := by
  obtain ⟨A, cap, h1, h2, h3, h4, h5⟩ := h
  refine ⟨A, cap, h1, h2, h3, h4, fun hp => ?_⟩
  obtain ⟨a, ha, hla, hc⟩ := h5 hp
  exact ⟨a, ha, Nat.lt_of_lt_of_le hla hB, CellsAt.more hB e a hc⟩
theorem NdV.more {w : World} {B B' : Nat} {v : Value} {n : Nd} (h : NdV w B v n) (hB : B ≤ B') : NdV w B' v n := by
  obtain ⟨ev, h1, h2, h3⟩ := h
  exact ⟨ev, h1, h2.more hB, h3⟩
/-- What stands in a world whose heap grew. -/
theorem NdV.below {w w' : World} {v : Value} {n : Nd} (h : NdV w w.heap.size v n) (hb : Below w.heap.size w w') : NdV w' w'.heap.size v n := (h.keep hb).more hb.size
theorem EsAt.below {w w' : World} {v : Value} {e : Es} (h : EsAt w w.heap.size v e) (hb : Below w.heap.size w w') : EsAt w' w'.heap.size v e := (h.keep hb).more hb.size
theorem EsAt.nil (w : World) (B : Nat) : EsAt w B (.slice none 0 0) .nil := ⟨none, 0, rfl, Nat.le_refl _, Nat.zero_le _, fun _ => rfl, fun h => absurd h (Nat.lt_irrefl 0)⟩
theorem EsAt.form {w : World} {B : Nat} {v : Value} {e : Es} (h : EsAt w B v e) : ∃ A cap, v = .slice A e.len cap ∧ e.len ≤ cap ∧ cap ≤ maxLen := by
  obtain ⟨A, cap, h1, h2, h3, _⟩ := h
  exact ⟨A, cap, h1, h2, h3⟩
/-- The first entry of a row, and what is behind it. -/
theorem EsAt.head {w : World} {B : Nat} {A : Option Addr} {n cap : Nat} {nm : ByteArray} {k : Nat} {d : ByteArray} {s e : Es} (h : EsAt w B (.slice A n cap) (.cons nm k d s e)) :
    n = e.len + 1 ∧ ∃ a, A = some a ∧ a.block < B ∧ w.cell? a = some (.string nm) ∧ nm.size ≤ maxLen ∧ NdAt w B (a.add 1) ⟨k, d, s⟩ ∧ EsAt w B (.slice (some (a.add 4)) e.len (cap - 1)) e ∧ 1 ≤ cap ∧ cap ≤ maxLen := by
  obtain ⟨A', cap', h1, h2, h3, h4, h5⟩ := h
  have hl : (Es.cons nm k d s e).len = e.len + 1 := rfl
  rw [hl] at h1 h2 h5
  injection h1 with e1 e2 e3
  subst e1; subst e2; subst e3
  obtain ⟨a, rfl, hla, h0, h6, h7, h8, h9, h10, ⟨A2, c2, h11, h12, h13, h14, h15⟩, h16⟩ := h5 (by omega)
  have hadd : ∀ k, (a.add 1).add k = a.add (1 + k) := fun k => by unfold Addr.add; by_cases h2 : k = 0 <;> simp_all [Nat.add_assoc]
  refine ⟨rfl, a, rfl, hla, h0, h8, ⟨by rw [addB]; exact hla, h6, by rw [hadd]; exact h7, ⟨_, by rw [hadd]; exact h11, ⟨A2, c2, rfl, h12, h13, h14, h15⟩⟩, h9, h10⟩, ⟨_, _, rfl, by omega, by omega, (fun h => by cases h), fun _ => ⟨_, rfl, by rw [addB]; exact hla, h16⟩⟩, by omega, h3⟩
end Go.Proofs.YtmcafiihicanfaaDoor
