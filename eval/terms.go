package eval

import (
	"treillage/api"
	"treillage/fact"
	"treillage/lat"
	"treillage/num"
	"treillage/scalar"
)

// terms are those of the value of an expression that may be, and neither reads nor has parts.
func terms(e *api.Expr) []api.Term {
	switch e.Op {
	case api.OpInt:
		return between(e.N, e.N)
	case api.OpAtLeast:
		return between(e.N, api.MaxInt)
	case api.OpAtMost:
		return between(-api.MaxInt, e.N)
	case api.OpText:
		t, _ := scalar.Text(e.Text)
		return []api.Term{t}
	case api.OpBool:
		return []api.Term{scalar.Truth(e.N == 1)}
	case api.OpKind:
		return whole(e.N)
	case api.OpLater:
		return []api.Term{later(api.KBool), later(api.KInt), later(api.KText)}
	}
	return nil
}

// between is the numbers from one to another one, both of the language.
func between(lo, hi int) []api.Term {
	t, _ := scalar.Between(lo, hi)
	return []api.Term{t}
}

// whole is all of a kind, or anything.
func whole(kind int) []api.Term {
	if kind == api.KAny {
		return lat.Any().Terms
	}
	t, _ := scalar.Whole(kind)
	return []api.Term{t}
}

// later is all of a kind, known later.
func later(kind int) api.Term {
	t, _ := scalar.Whole(kind)
	return scalar.Later(t)
}

// reckoned is the sum, the difference or the product of two values.
func reckoned(op int, a, b api.Value) api.Value {
	s, t := must(fact.One(a)), must(fact.One(b))
	switch {
	case s.Kind != t.Kind || s.Kind != api.KInt && (s.Kind != api.KText || op != api.OpAdd):
		panic(fault{api.ErrKind})
	case !known(s) || !known(t):
		panic(fault{api.ErrVague})
	case s.Maybe || t.Maybe:
		s = later(s.Kind)
	case s.Kind == api.KInt:
		n := must(number(op, s.Lo, t.Lo))
		s = between(n, n)[0]
	default:
		var ok bool
		if s, ok = scalar.Text(s.Text + t.Text); !ok {
			panic(fault{api.ErrLong})
		}
	}
	return must(lat.Of(s))
}

// known tells whether it is known, now or later, which one thing a scalar is.
func known(t api.Term) bool { return t.Maybe || scalar.Atom(t) }

// number is the sum, the difference or the product of two numbers.
func number(op, a, b int) (int, api.Errno) {
	switch op {
	case api.OpAdd:
		return num.Add(a, b)
	case api.OpSub:
		return num.Sub(a, b)
	}
	return num.Mul(a, b)
}
