/- An arena, a map of those that are used, and a list of them, beside each other. -/
import Derived.Test.YtdfkjojofhleaaaM1
import Derived.Test.YtdfkjojofhleaaaN1
import Derived.Test.YtdfkjojofhleaaaQ1
namespace Go.Proofs.Ytdfkjojofhleaaa
open Go Go.RowKit

/-- an arena, the map and the list of those that are used -/
structure St (w W : World) (b bm m : Nat) (A : Option Addr) (c : Nat) (ps : List Pl) (fs us : List Nat) (n : Nat) : Prop where
  inv : Inv ps fs us
  map : MapAt W bm n us
  qu : Qu W (bm + 1) A c us
  one : One w W b (fun k => k = bm ∨ OfA A k) m ps fs
theorem St.below {w W W' : World} {b bm m c n : Nat} {A : Option Addr} {ps : List Pl} {fs us : List Nat} (h : St w W b bm m A c ps fs us n) (hb : Below W.heap.size W W') : St w W' b bm m A c ps fs us n :=
  ⟨h.inv, h.map.keep (hb.block bm h.map.lt), h.qu.below hb, h.one.below hb⟩
theorem St.same {w W W' : World} {b bm m c n : Nat} {A : Option Addr} {ps : List Pl} {fs us : List Nat} (h : St w W b bm m A c ps fs us n) (ho : One w W' b (fun k => k = bm ∨ OfA A k) m ps fs) (hk : Keeps (fun k => k = bm ∨ OfA A k) W W') : St w W' b bm m A c ps fs us n :=
  ⟨h.inv, h.map.keep (hk.block bm (.inl rfl)), h.qu.keep fun k hk2 => hk.block k (.inr hk2), ho⟩
theorem grown_only {W W' : World} {bm : Nat} (hg : W.grownBy W' (some bm)) : OnlyS (· = bm) W W' :=
  ⟨hg.os, hg.tape, hg.output, hg.size, fun k hk hne => hg.block k hk (fun e => hne (by injection e))⟩
/-- one more is used -/
theorem St.more {w W w3 : World} {b bm m c n q : Nat} {A : Option Addr} {ps ps' : List Pl} {fs fs' us : List Nat} (h : St w W b bm m A c ps fs us n) (ho : One w w3 b (fun k => k = bm ∨ OfA A k) m ps' fs') (hk : Keeps (fun k => k = bm ∨ OfA A k) W w3) (hi : Inv ps' fs' (us ++ [q])) (hq : q ∉ us) (hq2 : q ≤ 4096) (hn : n ≤ 1000) (hl : us.length ≤ 1000) :
    ∃ w4, (Instr.mapUpdate 43 (.map (some bm)) (.int .i64 (q : Int)) (.bool true)).run Try.prog w3 = .ok () w4 ∧ ∀ ty, ∃ A' c' w5, (Builtin.append_ #[34, 34] ty #[.slice A us.length c, .slice (some ⟨w4.heap.size, 0, none⟩) 1 1]).run Try.prog (w4.alloc (.cells #[.int .i64 (q : Int)] 3)) = .ok (.slice A' (us.length + 1) c') w5 ∧ St w w5 b bm m A' c' ps' fs' (us ++ [q]) (n + 1) := by
  obtain ⟨w4, hrun, hm4, hg4⟩ := (h.map.keep (hk.block bm (.inl rfl))).put hq2 hq hn
  refine ⟨w4, hrun, fun ty => ?_⟩
  have ho4 := grown_only hg4
  have hqu3 : Qu w3 (bm + 1) A c us := h.qu.keep fun k hk2 => hk.block k (.inr hk2)
  have hqu4 : Qu w4 (bm + 1) A c us := hqu3.keep fun k hk2 => ho4.block k (hqu3.lt hk2).2 (fun e => by have := (hqu3.lt hk2).1; omega)
  have hone4 := ho.turn ho4 (fun k hk => .inl hk) (K' := fun k => k = bm ∨ OfA A k) (fun k hk => ⟨.inl hk, Nat.lt_of_lt_of_le (ho.klt hk).1 ho4.size⟩)
  have hlt4 := hm4.lt
  obtain ⟨A', c', w5, hr, hqa⟩ := hqu4.append (by omega) q hl ty
  refine ⟨A', c', w5, hr, hi, ?_, hqa.qu, ?_⟩
  · refine (hm4.keep (hqa.only.block bm hlt4 fun e => ?_)).perm ?_
    · have := (hqu4.lt e).1; omega
    · exact List.perm_append_comm (l₁ := [q])
  · refine hone4.turn hqa.only (fun k hk => .inr hk) (fun k hk => ?_)
    rcases hk with rfl | hk
    · exact ⟨.inl (.inl rfl), Nat.lt_of_lt_of_le hlt4 hqa.only.size⟩
    · refine ⟨?_, (hqa.qu.lt hk).2⟩
      rcases hqa.lies k hk with q | q
      · exact .inl (.inr q)
      · exact .inr q
/-- the first one is freed -/
theorem St.less {w W w3 : World} {b bm m c n o : Nat} {A : Option Addr} {ps ps' : List Pl} {fs fs' us : List Nat} (h : St w W b bm m A c ps fs (o :: us) n) (ho : One w w3 b (fun k => k = bm ∨ OfA A k) m ps' fs') (hk : Keeps (fun k => k = bm ∨ OfA A k) W w3) (hi : Inv ps' fs' us) :
    ∃ w4, (∀ ty, (Builtin.delete_ #[43, 3] ty #[.map (some bm), .int .i64 (o : Int)]).run Try.prog w3 = .ok (.tuple #[]) w4) ∧ St w w4 b bm m (tailA A c) (c - 1) ps' fs' us n := by
  obtain ⟨_, h2, h3⟩ := h.inv.gone
  have hbd := h.one.bounds
  have hd := fun ty => (h.map.keep (hk.block bm (.inl rfl))).drop (by omega) h2 ty
  obtain ⟨w4, hrun, hm4, hg4⟩ := hd 0
  refine ⟨w4, fun ty => hrun, hi, hm4, ?_, ?_⟩
  · have hqu3 : Qu w3 (bm + 1) A c (o :: us) := h.qu.keep fun k hk2 => hk.block k (.inr hk2)
    exact (hqu3.keep fun k hk2 => (grown_only hg4).block k (hqu3.lt hk2).2 (fun e => by have := (hqu3.lt hk2).1; omega)).tail
  · refine ho.turn (grown_only hg4) (fun k hk => .inl hk) (fun k hk => ?_)
    have hk' : k = bm ∨ OfA A k := hk.imp id tailA_of
    exact ⟨.inl hk', Nat.lt_of_lt_of_le (ho.klt hk').1 hg4.size⟩
end Go.Proofs.Ytdfkjojofhleaaa
