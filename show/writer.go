package show

import (
	"strings"

	"treillage/api"
	"treillage/name"
	"treillage/num"
	"treillage/token"
)

// How much operations bind, those first that bind least. What has no rule of its own is a unit.
const (
	join = iota + 1
	meet
	sum
	prod
	unit
)

// binds is how much each operation binds.
var binds = [...]int{
	api.OpInt: unit, api.OpText: unit, api.OpBool: unit, api.OpKind: unit, api.OpNone: unit, api.OpLater: unit,
	api.OpAtLeast: unit, api.OpAtMost: unit, api.OpRef: unit, api.OpStruct: unit,
	api.OpMeet: meet, api.OpJoin: join, api.OpAdd: sum, api.OpSub: sum, api.OpMul: prod,
}

// signs stand between the Kids of each operation that has some.
var signs = [...]string{api.OpMeet: "&", api.OpJoin: "|", api.OpAdd: "+", api.OpSub: "-", api.OpMul: "*"}

// bools are the words of the numbers 0 and 1.
var bools = [...]string{"false", "true"}

// kinds are the words of the kinds that are expressions.
var kinds = [...]string{api.KBool: "bool", api.KInt: "int", api.KText: "string", api.KAny: "any"}

// writer writes what may be: it is asked for nothing that Check refuses.
type writer struct{ text strings.Builder }

// put writes pieces, one behind the other.
func (w *writer) put(pieces ...string) {
	for _, s := range pieces {
		w.text.WriteString(s)
	}
}

// pair writes a name and its expression, as they stand in a struct and in a file.
func (w *writer) pair(s string, e api.Expr) {
	w.put(s, ": ")
	w.expr(e, join)
	w.put(";")
}

// expr writes an expression, in brackets if it binds less than the place asks for at which it stands.
func (w *writer) expr(e api.Expr, least int) {
	switch {
	case binds[e.Op] < least:
		w.put("(")
		w.expr(e, join)
		w.put(")")
	case binds[e.Op] == unit:
		w.unit(e)
	default:
		w.kids(e)
	}
}

// kids writes an operation's Kids. Sums and products are taken from the left, so one of their own kind may stand first in them without brackets; joins and meets would take its Kids for their own.
func (w *writer) kids(e api.Expr) {
	least := binds[e.Op]
	if least == join || least == meet {
		least++
	}
	for i, k := range e.Kids {
		if i > 0 {
			w.put(" ", signs[e.Op], " ")
			least = binds[e.Op] + 1
		}
		w.expr(k, least)
	}
}

func (w *writer) unit(e api.Expr) {
	switch e.Op {
	case api.OpInt:
		w.put(num.Text(e.N))
	case api.OpText:
		w.put(token.Quote(e.Text))
	case api.OpBool:
		w.put(bools[e.N])
	case api.OpKind:
		w.put(kinds[e.N])
	case api.OpNone:
		w.put("none")
	case api.OpLater:
		w.put("computed")
	case api.OpAtLeast:
		w.put(">=", num.Text(e.N))
	case api.OpAtMost:
		w.put("<=", num.Text(e.N))
	case api.OpRef:
		path, _ := name.Text(e.Path...)
		w.put(path)
	case api.OpStruct:
		w.fields(e)
	}
}

// fields writes a struct.
func (w *writer) fields(e api.Expr) {
	between := ""
	w.put("{")
	for _, p := range e.Pairs {
		w.put(between)
		w.pair(p.Name, p.E)
		between = " "
	}
	if e.Open {
		w.put(between, "...")
	}
	w.put("}")
}
