/-
  PLAIN: what reading a list of nodes gives.
  CONDITIONS: none.
-/
import Derived.Test.YtopgakdgifmecaaTRise
import Derived.Test.YtopgakdgifmecaaTBran
import Derived.Test.YtopgakdgifmecaaTLink
namespace Go.Proofs.Ytopgakdgifmecaa
open Go.RowKit
set_option linter.unusedVariables false

theorem fitTs_of : ∀ ks : List Tr, (∀ t ∈ ks, fitT t) → fitTs ks
  | [], _ => by simp [fitTs]
  | t :: ks, h => by
    simp only [fitTs]
    exact ⟨h t (List.mem_cons_self ..), fitTs_of ks (fun x hx => h x (List.mem_cons_of_mem _ hx))⟩
theorem pos_self {ns : List Nq} {f i : Nat} (hg : ∀ p ∈ posQ ns (f + 1) i, GoodQ ns p) : ∃ n, ns[i]? = some n ∧ GoodQ ns i := by
  have h := hg i (by simp [posQ])
  exact ⟨_, List.getElem?_eq_getElem h.lt, h⟩
theorem fit_branch (ns : List Nq) : ∀ (f i : Nat), (∀ p ∈ posQ ns f i, GoodQ ns p) → fitT (branchQ ns f i)
  | 0, i, _ => by simp [branchQ, fitT, fitTs]
  | f + 1, i, hg => by
    obtain ⟨n, hn, hG⟩ := pos_self hg
    obtain ⟨_, _, _, h4, h5⟩ := whole_open (hG.w n hn).1
    simp only [branchQ, fitT]
    refine ⟨?_, fitTs_of _ (fun t ht => ?_)⟩
    · simp only [entsAt, kidsAt, hn, h5]
      rcases h4 with h4 | h4
      · left; simp [kidsQ, h4]
      · right; simp [kidsQ, h4]
    · obtain ⟨k, hk, rfl⟩ := List.mem_map.1 ht
      simp only [kidsAt, hn] at hk
      obtain ⟨q, hq⟩ := List.getElem?_of_mem hk
      exact fit_branch ns f k (pos_kid hn hq hg)
theorem inter_le : ∀ (es : List En) (kk : List (List En)), (interT es kk).length ≤ es.length + (kk.map List.length).sum
  | es, [] => by cases es <;> simp [interT]
  | [], k :: kk => by simp [interT]
  | e :: es, k :: kk => by
    have := inter_le es kk
    simp only [interT, List.length_append, List.length_cons, List.map_cons, List.sum_cons]
    omega
theorem sum_le_of {α : Type} (a b : α → Nat) : ∀ l : List α, (∀ x ∈ l, a x ≤ 3 * b x) → (l.map a).sum ≤ 3 * (l.map b).sum
  | [], _ => by simp
  | x :: l, h => by
    have h1 := h x (List.mem_cons_self ..)
    have h2 := sum_le_of a b l (fun y hy => h y (List.mem_cons_of_mem _ hy))
    simp only [List.map_cons, List.sum_cons]
    omega
theorem flatMap_len {α β : Type} (g : α → List β) : ∀ l : List α, (l.flatMap g).length = (l.map (fun x => (g x).length)).sum
  | [] => rfl
  | x :: l => by
    have := flatMap_len g l
    simp only [List.flatMap_cons, List.length_append, List.map_cons, List.sum_cons]
    omega
theorem flat_pos (ns : List Nq) : ∀ (f i : Nat), (∀ p ∈ posQ ns f i, GoodQ ns p) → (flatT (branchQ ns f i)).length ≤ 3 * (posQ ns f i).length
  | 0, i, _ => by simp [branchQ, flatT, flatL, interT]
  | f + 1, i, hg => by
    obtain ⟨n, hn, hG⟩ := pos_self hg
    obtain ⟨_, h2, _, _, h5⟩ := whole_open (hG.w n hn).1
    simp only [branchQ, flatT, posQ, List.length_cons]
    have h6 := inter_le (entsAt ns i) (flatL ((kidsAt ns i).map (branchQ ns f)))
    have h7 : (entsAt ns i).length ≤ 3 := by simp only [entsAt, hn]; omega
    have h8 : ((flatL ((kidsAt ns i).map (branchQ ns f))).map List.length).sum ≤ 3 * ((kidsAt ns i).map (fun k => (posQ ns f k).length)).sum := by
      rw [flatL_map, List.map_map, List.map_map]
      refine sum_le_of _ _ _ (fun k hk => ?_)
      simp only [kidsAt, hn] at hk
      obtain ⟨q, hq⟩ := List.getElem?_of_mem hk
      exact flat_pos ns f k (pos_kid hn hq hg)
    rw [flatMap_len]
    omega
/-- The tree that is read. -/
def rootQ (ns : List Nq) : Tr := branchQ ns ns.length 0
theorem link_good (ns : List Nq) (h : linkR ns.length 0 ns (List.replicate ns.length false) = true) (hn : 0 < ns.length) : (∀ p ∈ posQ ns ns.length 0, GoodQ ns p) ∧ (posQ ns ns.length 0).length = ns.length := by
  have hzb : ∀ j, (List.replicate ns.length false).getD j false = false := fun j => by
    simp only [List.getD_eq_getElem?_getD, List.getElem?_replicate]; split <;> rfl
  obtain ⟨a1, a2⟩ := link_sound ns.length ns 0 _ (by omega) (by simp) h
  obtain ⟨b1, b2⟩ := link_once ns (fun q n h => by have := a1 q n h; rw [Nat.zero_add] at this; exact this) (fun j h1 h2 => by have := a2 j (by omega) h1 h2; rw [hzb j] at this; exact this) hn
  refine ⟨b1, ?_⟩
  have hperm : (posQ ns ns.length 0).Perm (List.range ns.length) := by
    rw [List.perm_iff_count]
    intro a
    by_cases ha : a < ns.length
    · rw [b2 a ha, List.count_range]; simp [ha]
    · rw [List.count_eq_zero.2 (fun h => ha (b1 a h).lt), List.count_range]; simp [ha]
  rw [hperm.length_eq, List.length_range]
theorem root_good (ns : List Nq) (h : linkR ns.length 0 ns (List.replicate ns.length false) = true) (hl : ns.length ≤ 100) : fitT (rootQ ns) ∧ htT (rootQ ns) < 101 ∧ (flatT (rootQ ns)).length ≤ 300 := by
  by_cases hn : 0 < ns.length
  · obtain ⟨h1, h2⟩ := link_good ns h hn
    refine ⟨fit_branch ns _ _ h1, ?_, ?_⟩
    · have := branch_ht ns ns.length 0; unfold rootQ; omega
    · have := flat_pos ns _ _ h1; unfold rootQ; omega
  · have : ns.length = 0 := by omega
    unfold rootQ
    rw [this]
    refine ⟨by simp [branchQ, fitT, fitTs], by simp [branchQ, htT, htL], by simp [branchQ, flatT, flatL, interT]⟩
/-- What reading answers. -/
def readC (ns : List Nq) : Int := if smallQ ns = false then 1 else if linkR ns.length 0 ns (List.replicate ns.length false) = false then 3 else if (deT (rootQ ns)).e = false then 3 else if riseR ((flatT (rootQ ns)).map Prod.fst) = false then 3 else 0
end Go.Proofs.Ytopgakdgifmecaa
