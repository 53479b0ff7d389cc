// Package mode is layer 1: modes of locks, as points of a plane (see shared/doc/01-mode.md).
package mode

import "escutcheon/api"

const modes = api.X + 1

// goes: a row for each mode that is held, a column for each that is asked for. It is not symmetric: U may come to S, but S may not come to U, or whoever has U would never get to write.
var goes = [modes][modes]bool{
	api.None: {true, true, true, true, true, true, true},
	api.IS:   {true, true, true, true, true, true, false},
	api.IX:   {true, true, true, false, false, false, false},
	api.S:    {true, true, false, true, false, true, false},
	api.SIX:  {true, true, false, false, false, false, false},
	api.U:    {true, true, false, false, false, false, false},
	api.X:    {true, false, false, false, false, false, false},
}

var names = [modes]string{
	api.None: "none",
	api.IS:   "IS",
	api.IX:   "IX",
	api.S:    "S",
	api.SIX:  "SIX",
	api.U:    "U",
	api.X:    "X",
}

// May: P1.1.
func May(m int) bool { return m >= api.None && m <= api.X }

// known keeps every look into a table inside it: what is no mode counts as None.
func known(m int) int {
	if May(m) {
		return m
	}
	return api.None
}

// At: P1.2.
func At(m int) complex128 {
	points := [modes]complex128{
		api.None: 0,
		api.IS:   1i,
		api.IX:   2i,
		api.S:    1 + 1i,
		api.SIX:  1 + 2i,
		api.U:    2 + 1i,
		api.X:    3 + 2i,
	}
	return points[known(m)]
}

// reaches asks by >= and not by its denial by <: a part of z that is no number must not be reached.
func reaches(p, z complex128) bool {
	return real(p) >= real(z) && imag(p) >= imag(z)
}

// Of: P1.2. The modes' numbers rise as their points do, so the first one that reaches z has the least point.
func Of(z complex128) int {
	for m := api.None; m < api.X; m++ {
		if reaches(At(m), z) {
			return m
		}
	}
	return api.X
}

// Covers: P1.2.
func Covers(m, n int) bool { return reaches(At(m), At(n)) }

// Sup: P1.2.
func Sup(m, n int) int {
	p, q := At(m), At(n)
	return Of(complex(max(real(p), real(q)), max(imag(p), imag(q))))
}

// Compat: P1.3.
func Compat(held, asked int) bool { return goes[known(held)][known(asked)] }

// Sym: P1.3.
func Sym(m, n int) bool { return Compat(m, n) || Compat(n, m) }

// Parent: P1.4.
func Parent(m int) int {
	switch known(m) {
	case api.None:
		return api.None
	case api.IS, api.S:
		return api.IS
	}
	return api.IX
}

// Reads: P1.4.
func Reads(m int) bool { return real(At(m)) >= 1 }

// Writes: P1.4.
func Writes(m int) bool { return real(At(m)) >= 3 }

// Name: P1.1.
func Name(m int) string { return names[known(m)] }

// Parse: P1.1.
func Parse(s string) (int, bool) {
	for m, name := range names {
		if name == s {
			return m, true
		}
	}
	return api.None, false
}

// Group: P1.4.
func Group(l []int) int {
	all := api.None
	for _, m := range l {
		all = Sup(all, m)
	}
	return all
}
