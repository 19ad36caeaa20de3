package parse

import (
	"cmp"
	"slices"

	"treillage/api"
	"treillage/expr"
	"treillage/name"
	"treillage/token"
)

// parser goes through tokens from the left. Each rule has a method, which reads what comes next by it.
type parser struct {
	left []token.Token // those that were not passed over yet
	end  int           // how long the text is
	open int           // how many brackets are open
}

// next is the token that comes next; at the end it is one of the kind End.
func (p *parser) next() token.Token {
	if len(p.left) == 0 {
		return token.Token{Kind: token.End, At: p.end}
	}
	return p.left[0]
}

// pass passes over the token that comes next.
func (p *parser) pass() { p.left = p.left[1:] }

// fault is an error at the token that comes next.
func (p *parser) fault(e api.Errno) fault { return fault{at: p.next().At, e: e} }

// is tells whether a sign comes next.
func (p *parser) is(sign string) bool {
	t := p.next()
	return t.Kind == token.Sign && t.Text == sign
}

// may passes over a sign, if it comes next, and tells whether it did.
func (p *parser) may(sign string) bool {
	ok := p.is(sign)
	if ok {
		p.pass()
	}
	return ok
}

// must passes over a sign, which has to come next.
func (p *parser) must(sign string) {
	if !p.may(sign) {
		panic(p.fault(api.ErrSyntax))
	}
}

// name is the name that has to come next. It is not passed over, because it may be one too many, which is told at its place.
func (p *parser) name() string {
	t := p.next()
	if t.Kind != token.Name || !name.Right(t.Text) {
		panic(p.fault(api.ErrSyntax))
	}
	return t.Text
}

func (p *parser) file() []api.Decl {
	var l []api.Decl
	for p.next().Kind != token.End {
		if len(l) == api.MaxNodes {
			panic(p.fault(api.ErrLong))
		}
		l = append(l, p.decl())
	}
	return l
}

func (p *parser) decl() api.Decl {
	var d api.Decl
	if t := p.next(); t.Kind == token.Name && t.Text == "resource" {
		d.Res = true
		p.pass()
	}
	d.Name = p.name()
	p.pass()
	p.must(":")
	d.E = p.whole()
	p.must(";")
	return d
}

// alone reads a join behind which nothing stands.
func (p *parser) alone() api.Expr {
	e := p.whole()
	if p.next().Kind != token.End {
		panic(p.fault(api.ErrSyntax))
	}
	return e
}

// whole reads a join that stands in no other expression, and so may be too deep.
func (p *parser) whole() api.Expr {
	deep := p.fault(api.ErrDepth)
	e := p.join()
	if expr.Depth(e) > api.MaxDepth {
		panic(deep)
	}
	return e
}

func (p *parser) join() api.Expr { return p.kids(api.OpJoin, "|", p.meet) }

func (p *parser) meet() api.Expr { return p.kids(api.OpMeet, "&", p.sum) }

// kids reads parts with a sign between each two. One alone is what it is; several are the Kids of one operation.
func (p *parser) kids(op int, sign string, part func() api.Expr) api.Expr {
	l := []api.Expr{part()}
	for p.is(sign) {
		if len(l) == api.MaxFields {
			panic(p.fault(api.ErrLong))
		}
		p.pass()
		l = append(l, part())
	}
	if len(l) == 1 {
		return l[0]
	}
	return api.Expr{Op: op, Kids: l}
}

func (p *parser) sum() api.Expr {
	e := p.prod()
	for {
		switch {
		case p.may("+"):
			e = two(api.OpAdd, e, p.prod())
		case p.may("-"):
			e = two(api.OpSub, e, p.prod())
		default:
			return e
		}
	}
}

func (p *parser) prod() api.Expr {
	e := p.unit()
	for p.may("*") {
		e = two(api.OpMul, e, p.unit())
	}
	return e
}

// two is an operation of two Kids.
func two(op int, a, b api.Expr) api.Expr {
	return api.Expr{Op: op, Kids: []api.Expr{a, b}}
}

func (p *parser) unit() api.Expr {
	t := p.next()
	switch {
	case t.Kind == token.Int || p.is("-"):
		return api.Expr{Op: api.OpInt, N: p.number()}
	case p.may(">="):
		return api.Expr{Op: api.OpAtLeast, N: p.number()}
	case p.may("<="):
		return api.Expr{Op: api.OpAtMost, N: p.number()}
	case p.is("("):
		return p.bracket(p.join, ")")
	case p.is("{"):
		return p.bracket(p.fields, "}")
	case t.Kind == token.Text:
		p.pass()
		return api.Expr{Op: api.OpText, Text: t.Text}
	case t.Kind == token.Name && name.Right(t.Text):
		return api.Expr{Op: api.OpRef, Path: p.path()}
	case t.Kind == token.Name:
		return p.word()
	}
	panic(p.fault(api.ErrSyntax))
}

// number reads a number, with a sign ahead or without.
func (p *parser) number() int {
	below := p.may("-")
	t := p.next()
	if t.Kind != token.Int {
		panic(p.fault(api.ErrSyntax))
	}
	p.pass()
	if below {
		return -t.N
	}
	return t.N
}

// word reads a word that is a unit.
func (p *parser) word() api.Expr {
	e := meaning(p.next().Text)
	if e.Op == 0 {
		panic(p.fault(api.ErrSyntax))
	}
	p.pass()
	return e
}

// meaning is what a word is as a unit; an expression without an operation, if it is none.
func meaning(word string) api.Expr {
	switch word {
	case "true":
		return api.Expr{Op: api.OpBool, N: 1}
	case "false":
		return api.Expr{Op: api.OpBool}
	case "any":
		return api.Expr{Op: api.OpKind, N: api.KAny}
	case "bool":
		return api.Expr{Op: api.OpKind, N: api.KBool}
	case "int":
		return api.Expr{Op: api.OpKind, N: api.KInt}
	case "string":
		return api.Expr{Op: api.OpKind, N: api.KText}
	case "none":
		return api.Expr{Op: api.OpNone}
	case "computed":
		return api.Expr{Op: api.OpLater}
	}
	return api.Expr{}
}

// path reads names with a dot between each two.
func (p *parser) path() []string {
	var l []string
	for len(l) == 0 || p.may(".") {
		s := p.name()
		if len(l) == api.MaxDepth {
			panic(p.fault(api.ErrLong))
		}
		p.pass()
		l = append(l, s)
	}
	return l
}

// bracket reads a bracket, what stands in it, and the one that ends it.
func (p *parser) bracket(inner func() api.Expr, last string) api.Expr {
	if p.open == api.MaxDepth {
		panic(p.fault(api.ErrDepth))
	}
	p.pass()
	p.open++
	e := inner()
	p.must(last)
	p.open--
	return e
}

// fields reads what stands in the brackets of a struct.
func (p *parser) fields() api.Expr {
	e := api.Expr{Op: api.OpStruct}
	for !p.is("...") && !p.is("}") {
		e.Pairs = append(e.Pairs, p.pair(e.Pairs))
	}
	e.Open = p.may("...")
	slices.SortFunc(e.Pairs, func(a, b api.Pair) int { return cmp.Compare(a.Name, b.Name) })
	return e
}

// pair reads a pair of a struct that has others already.
func (p *parser) pair(others []api.Pair) api.Pair {
	s := p.name()
	if slices.ContainsFunc(others, func(o api.Pair) bool { return o.Name == s }) {
		panic(p.fault(api.ErrThere))
	}
	if len(others) == api.MaxFields {
		panic(p.fault(api.ErrLong))
	}
	p.pass()
	p.must(":")
	e := p.join()
	p.must(";")
	return api.Pair{Name: s, E: e}
}
