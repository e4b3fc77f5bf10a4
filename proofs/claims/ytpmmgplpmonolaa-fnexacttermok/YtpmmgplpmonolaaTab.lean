/- Contract of the program's table of functions by name. Conditions: at most 1048577 functions, names that are strings of the model. -/
import Derived.Test.YtpmmgplpmonolaaProg
import Derived.Test.YtpmmgplpmonolaaTabA
namespace Go.Proofs.Ytpmmgplpmonolaa
open Go.RowKit Go.Maps

theorem law9 : Keyed Try.prog 9 := string_keyed Try.underlying9
theorem zero3 (w : World) : (zeroValue 3).run Try.prog w = .ok (.int .i64 0) w := by kernel_rfl
theorem info3 : (Try.prog.info? 3).map (fun i => (i.zero, i.size, i.bytes)) = some (some (.int .i64 0), 1, 8) := by kernel_rfl

theorem field0 (m : Option Nat) (a : Option Addr) (n c : Nat) (w : World) : (Instr.field 125 (.agg #[.map m, .slice a n c]) 0).run Try.prog w = .ok (.map m) w := by kernel_rfl
theorem field1 (m : Option Nat) (a : Option Addr) (n c : Nat) (w : World) : (Instr.field 125 (.agg #[.map m, .slice a n c]) 1).run Try.prog w = .ok (.slice a n c) w := by kernel_rfl

/-- What lies in memory while the table is made. -/
structure TabSt (w wr : World) (ss : List SymD) (k : Nat) (v : Value) (D : DataW Unit) : Prop where
  r0 : wr.cell? ⟨w.heap.size, 0, none⟩ = some (.map none)
  r1 : wr.cell? ⟨w.heap.size, 1, none⟩ = some (.slice none 0 0)
  fr0 : wr.frozen? ⟨w.heap.size, 0, none⟩ = false
  fr1 : wr.frozen? ⟨w.heap.size, 1, none⟩ = false
  g0 : wr.cell? ⟨w.heap.size + 1 + 1, 0, none⟩ = some (.map (some (w.heap.size + 1)))
  g1 : wr.cell? ⟨w.heap.size + 1 + 1, 1, none⟩ = some v
  fg1 : wr.frozen? ⟨w.heap.size + 1 + 1, 1, none⟩ = false
  map : wr.ownsMap Try.prog 9 (plainElem Try.prog 3) (w.heap.size + 1) k D
  is : MapIs D (ss.take k)
  row : wr.ownsRow (w.heap.size + 3) 3 1 v (againTo ss k).length (ints (againTo ss k))
  size : w.heap.size + 3 ≤ wr.heap.size
  below : Below w.heap.size w wr

theorem TabSt.alloc {w wr : World} {ss : List SymD} {k : Nat} {v : Value} {D : DataW Unit} (h : TabSt w wr ss k v D) (o : Obj) : TabSt w (wr.alloc o) ss k v D := by
  have hg := World.grownBy_alloc wr o none
  have hs := h.size
  refine ⟨hg.cell h.r0 (by simp), hg.cell h.r1 (by simp), ?_, ?_, hg.cell h.g0 (by simp), hg.cell h.g1 (by simp), ?_, h.map.alloc _, h.is, h.row.alloc _, by simp; omega, h.below.alloc (by omega) _⟩
  · exact (World.frozen?_of_block (hg.block w.heap.size (by omega) (by simp))).trans h.fr0
  · exact (World.frozen?_of_block (hg.block w.heap.size (by omega) (by simp))).trans h.fr1
  · exact (World.frozen?_of_block (hg.block (w.heap.size + 1 + 1) (by omega) (by simp))).trans h.fg1

theorem own_block {w : World} {base : Nat} {e : TypeId} {size : Nat} {v : Value} {n : Nat} {xs : List Value} (h : w.ownsRow base e size v n xs) : ∀ j, v.ownBlock = some j → base ≤ j := by
  intro j hj
  rcases h.2 with ⟨rfl, _⟩ | ⟨g, cap, cur, rfl, hg, _⟩
  · simp [Value.ownBlock] at hj
  · simp [Value.ownBlock] at hj
    omega

theorem own_pos {w : World} {base : Nat} {e : TypeId} {size : Nat} {v : Value} {n : Nat} {xs : List Value} (h : w.ownsRow base e size v (n + 1) xs) : ∃ g c, v = .slice (some ⟨g, 0, none⟩) (n + 1) c := by
  rcases h.2 with ⟨_, h⟩ | ⟨g, cap, _, rfl, _⟩
  · simp at h
  · exact ⟨g, cap, rfl⟩

theorem own_shape {w : World} {base : Nat} {e : TypeId} {size : Nat} {v : Value} {n : Nat} {xs : List Value} (h : w.ownsRow base e size v n xs) : ∃ a c, v = .slice a n c := by
  rcases h.2 with ⟨rfl, rfl⟩ | ⟨g, cap, _, rfl, _⟩
  · exact ⟨none, 0, rfl⟩
  · exact ⟨_, cap, rfl⟩

theorem TabSt.far {w wr w2 : World} {ss : List SymD} {k : Nat} {v : Value} {D : DataW Unit} (h : TabSt w wr ss k v D) (hg : wr.grownBy w2 v.ownBlock) :
    w2.cell? ⟨w.heap.size + 1 + 1, 1, none⟩ = some v ∧ w2.frozen? ⟨w.heap.size + 1 + 1, 1, none⟩ = false := by
  have hb := own_block h.row
  have hsz := h.size
  have n2 : some (w.heap.size + 1 + 1) ≠ v.ownBlock := fun e => by have := hb _ e.symm; omega
  exact ⟨hg.cell h.g1 n2, (World.frozen?_of_block (hg.block (w.heap.size + 1 + 1) (by omega) n2)).trans h.fg1⟩

theorem TabSt.seen {w wr w2 : World} {ss : List SymD} {k : Nat} {v v' : Value} {D : DataW Unit} (h : TabSt w wr ss k v D) (hk : k < ss.length) (hs : (idx (ss.take k) ss[k].name.data.toList).isSome = true)
    (hown : w2.ownsRow (w.heap.size + 3) 3 1 v' ((againTo ss k).length + 1) (ints (againTo ss k) ++ [.int .i64 k])) (hg : wr.grownBy w2 v.ownBlock) : TabSt w (w2.setCell ⟨w.heap.size + 1 + 1, 1, none⟩ v') ss (k + 1) v' D := by
  have hb := own_block h.row
  have hsz := h.size
  have n0 : some w.heap.size ≠ v.ownBlock := fun e => by have := hb _ e.symm; omega
  have n1 : some (w.heap.size + 1) ≠ v.ownBlock := fun e => by have := hb _ e.symm; omega
  have n2 : some (w.heap.size + 1 + 1) ≠ v.ownBlock := fun e => by have := hb _ e.symm; omega
  have d : ∀ (a b : Addr), a ≠ b → ∀ u, w2.cell? b = some u → (w2.setCell a v').cell? b = some u := fun a b hab u hu => by rw [World.cell?_setCell_other _ _ _ _ hab]; exact hu
  refine ⟨d _ _ (by simp) _ (hg.cell h.r0 n0), d _ _ (by simp) _ (hg.cell h.r1 n0), ?_, ?_, d _ _ (by simp) _ (hg.cell h.g0 n2), World.cell?_setCell_same _ _ _ (hg.cell h.g1 n2), ?_, ?_, mapIs_step0 hk h.is hs, ?_, ?_, ?_⟩
  · simp only [World.frozen?_setCell]; exact (World.frozen?_of_block (hg.block w.heap.size (by omega) n0)).trans h.fr0
  · simp only [World.frozen?_setCell]; exact (World.frozen?_of_block (hg.block w.heap.size (by omega) n0)).trans h.fr1
  · simp only [World.frozen?_setCell]; exact (World.frozen?_of_block (hg.block (w.heap.size + 1 + 1) (by omega) n2)).trans h.fg1
  · exact ((h.map.kept hg n1).setCell (by simp) _).mono (Nat.le_succ _)
  · rw [again_seen hk hs]
    have := ownsRow_setCell_below hown (a := ⟨w.heap.size + 1 + 1, 1, none⟩) (by simp) v'
    simpa [ints] using this
  · have := hg.size; simp; omega
  · exact (h.below.grown hg (by omega) (fun j hj => by have := hb j hj; omega)).setCell (p := ⟨w.heap.size + 1 + 1, 1, none⟩) (by simp; omega) _

theorem TabSt.fresh {w wr w2 : World} {ss : List SymD} {k : Nat} {v : Value} {D : DataW Unit} (h : TabSt w wr ss k v D) (hk : k < ss.length) (hs : (idx (ss.take k) ss[k].name.data.toList).isSome = false)
    (hm : w2.ownsMap Try.prog 9 (plainElem Try.prog 3) (w.heap.size + 1) (k + 1) (D.put (.string ss[k].name.data.toList) (.lit (.int .i64 k)))) (hg : wr.grownBy w2 (some (w.heap.size + 1))) :
    TabSt w w2 ss (k + 1) v (D.put (.string ss[k].name.data.toList) (.lit (.int .i64 k))) := by
  have hb := own_block h.row
  have hsz := h.size
  have n0 : some w.heap.size ≠ some (w.heap.size + 1) := by simp
  have n2 : some (w.heap.size + 1 + 1) ≠ some (w.heap.size + 1) := by simp
  refine ⟨hg.cell h.r0 n0, hg.cell h.r1 n0, ?_, ?_, hg.cell h.g0 n2, hg.cell h.g1 n2, ?_, hm, mapIs_step1 hk h.is hs, ?_, ?_, ?_⟩
  · exact (World.frozen?_of_block (hg.block w.heap.size (by omega) n0)).trans h.fr0
  · exact (World.frozen?_of_block (hg.block w.heap.size (by omega) n0)).trans h.fr1
  · exact (World.frozen?_of_block (hg.block (w.heap.size + 1 + 1) (by omega) n2)).trans h.fg1
  · rw [again_new hk hs]
    obtain ⟨h1, h2⟩ := h.row
    refine ⟨h1, ?_⟩
    rcases h2 with h2 | ⟨g, cap, cur, rfl, hg1, hh, r⟩
    · exact .inl h2
    · refine .inr ⟨g, cap, cur, rfl, hg1, ?_, r⟩
      rw [hg.block g (Array.getElem?_eq_some_iff.1 hh).1 (by simp; omega)]; exact hh
  · have := hg.size; omega
  · exact h.below.grown hg (by omega) (fun j hj => by simp at hj; omega)

theorem TabSt.start (w : World) (ss : List SymD) (t t' : TypeId) : TabSt w (((w.alloc (.cells #[.map none, .slice none 0 0] t)).alloc (.map #[] 0)).alloc (.cells #[.map (some (w.heap.size + 1)), .slice none 0 0] t')) ss 0 (.slice none 0 0) (.map []) := by
  refine ⟨by simp [go_sem], by simp [go_sem], by simp [go_sem], by simp [go_sem], by simp [go_sem], by simp [go_sem], by simp [go_sem], ?_, mapIs_nil, ?_, by simp, ?_⟩
  · have := (World.ownsMap_made (w.alloc (.cells #[.map none, .slice none 0 0] t)) Try.prog 9 (plainElem (H := Unit) Try.prog 3)).alloc (.cells #[.map (some (w.heap.size + 1)), .slice none 0 0] t')
    simpa using this
  · exact ⟨by simp [againTo, ints], .inl ⟨rfl, rfl⟩⟩
  · exact (((Below.refl _ _).alloc (Nat.le_refl _) _).alloc (by simp) _).alloc (by simp; omega) _

theorem tab_empty (w : World) (o o' : Obj) : ((((w.alloc o).alloc (.map #[] 0)).alloc o').ownsMap Try.prog 9 (plainElem (H := Unit) Try.prog 3) (w.heap.size + 1) 0 (.map [])) ∧ ((((w.alloc o).alloc (.map #[] 0)).alloc o').ownsRow (w.heap.size + 3) 3 1 (.slice none 0 0) (againTo [] 0).length (ints (againTo [] 0)))
    ∧ Below w.heap.size w (((w.alloc o).alloc (.map #[] 0)).alloc o') := by
  refine ⟨?_, ⟨by simp [againTo, ints], .inl ⟨rfl, rfl⟩⟩, (((Below.refl _ _).alloc (Nat.le_refl _) _).alloc (by simp) _).alloc (by simp; omega) _⟩
  have := (World.ownsMap_made (w.alloc o) Try.prog 9 (plainElem (H := Unit) Try.prog 3)).alloc o'
  simpa using this
end Go.Proofs.Ytpmmgplpmonolaa
