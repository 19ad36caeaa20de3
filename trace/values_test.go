package trace_test

import (
	"fmt"
	"math"
	"slices"
	"strconv"
	"strings"

	"treillage/api"
	"treillage/lat"
)

// top is the greatest number of the language.
const top = 1 << 53

// value, number, text, maybe, field, closed and open are short for what values are made of; kinds and errors are written as numbers.
func value(l ...api.Term) api.Value                 { return api.Value{Terms: l} }
func number(lo, hi int) api.Term                    { return api.Term{Kind: 2, Lo: lo, Hi: hi} }
func text(s string) api.Term                        { return api.Term{Kind: 3, Text: s} }
func field(name string, l ...api.Term) api.Field    { return api.Field{Name: name, V: value(l...)} }
func closed(l ...api.Field) api.Term                { return api.Term{Kind: 4, Fields: l} }
func open(l ...api.Field) api.Term                  { return api.Term{Kind: 4, Open: true, Fields: l} }
func came(l ...api.Term) api.Result                 { return api.Result{V: value(l...)} }
func wrong(e api.Errno, l ...api.Term) api.Result   { return api.Result{E: e, V: value(l...)} }
func dep(name string, r api.Result) api.Dep         { return api.Dep{Name: name, R: r} }
func maybe(t api.Term) api.Term                     { t.Maybe = true; return t }
func with(l []api.Dep, at int, d api.Dep) []api.Dep { l = slices.Clone(l); l[at] = d; return l }

// The terms that are all of a kind, or one thing of KBool.
var (
	no      = api.Term{Kind: 1}
	yes     = api.Term{Kind: 1, Lo: 1, Hi: 1}
	both    = api.Term{Kind: 1, Hi: 1}
	numbers = api.Term{Kind: 2, Lo: -top, Hi: top}
	texts   = api.Term{Kind: 3, Any: true}
	all     = api.Term{Kind: 5}
)

// row are n numbers, each one a term.
func row(n int) []api.Term {
	var l []api.Term
	for i := range n {
		l = append(l, number(i, i))
	}
	return l
}

// fields are n fields, each with some terms.
func fields(n int, l ...api.Term) []api.Field {
	var out []api.Field
	for i := range n {
		out = append(out, field("f"+strconv.Itoa(100+i), l...))
	}
	return out
}

// nested is a value within n structs.
func nested(n int, l ...api.Term) api.Value {
	v := value(l...)
	for range n {
		v = value(closed(api.Field{Name: "a", V: v}))
	}
	return v
}

// deps are n results with names that are all unlike, the greatest first.
func deps(n int, r api.Result) []api.Dep {
	var l []api.Dep
	for i := range n {
		l = append(l, dep("n"+strconv.Itoa(1000+n-i), r))
	}
	return l
}

// brief is the begin of what is told, which may be great.
func brief(x any) string {
	s := fmt.Sprintf("%+v", x)
	return s[:min(len(s), 300)]
}

// bytesOf are the begin of a text's bytes.
func bytesOf(s string) string { return brief([]byte(s[:min(len(s), 80)])) }

// digits is a number's bytes by the words of chapter 3.
func digits(n uint64) string {
	s := string([]byte{byte(n % 128)})
	for n /= 128; n > 0; n /= 128 {
		s = string([]byte{byte(n%128) + 128}) + s
	}
	return s
}

// signed is the bytes of a number with a sign.
func signed(n int) string {
	if n < 0 {
		return digits(2*(uint64(-(n + 1))) + 1)
	}
	return digits(2 * uint64(n))
}

// counted is a text's bytes.
func counted(s string) string { return digits(uint64(len(s))) + s }

// valueModel is a value's bytes by the words of chapter 10, right or not.
func valueModel(v api.Value) string {
	var s strings.Builder
	s.WriteString(digits(uint64(len(v.Terms))))
	for _, t := range v.Terms {
		n := 8 * uint64(t.Kind)
		for i, b := range []bool{t.Maybe, t.Any, t.Open} {
			if b {
				n += 1 << i
			}
		}
		s.WriteString(digits(n))
		switch t.Kind {
		case 1, 2:
			s.WriteString(signed(t.Lo) + signed(t.Hi))
		case 3:
			s.WriteString(counted(t.Text))
		case 4:
			s.WriteString(digits(uint64(len(t.Fields))))
			for _, f := range t.Fields {
				s.WriteString(counted(f.Name) + valueModel(f.V))
			}
		}
	}
	return s.String()
}

// resultModel is a result's bytes by the chapter's words, right or not; one that is an error has nothing behind it.
func resultModel(r api.Result) string {
	if r.E != 0 {
		return digits(uint64(r.E))
	}
	return digits(0) + counted(valueModel(r.V))
}

// traceModel is a trace's bytes by the chapter's words, right or not.
func traceModel(l []api.Dep) string {
	s := digits(uint64(len(l)))
	for _, d := range l {
		s += counted(d.Name) + counted(resultModel(d.R))
	}
	return s
}

// sameModel tells whether two results are the same, field by field.
func sameModel(a, b api.Result) bool { return a.E == b.E && sameValues(a.V, b.V) }

// sameValues tells whether two values have the same terms.
func sameValues(a, b api.Value) bool { return slices.EqualFunc(a.Terms, b.Terms, sameTerms) }

// sameTerms tells whether two terms have the same fields.
func sameTerms(a, b api.Term) bool {
	same := a.Kind == b.Kind && a.Lo == b.Lo && a.Hi == b.Hi && a.Text == b.Text && a.Any == b.Any && a.Maybe == b.Maybe && a.Open == b.Open
	return same && slices.EqualFunc(a.Fields, b.Fields, func(f, g api.Field) bool { return f.Name == g.Name && sameValues(f.V, g.V) })
}

// sameDeps tells whether two traces are the same.
func sameDeps(a, b []api.Dep) bool {
	return slices.EqualFunc(a, b, func(x, y api.Dep) bool { return x.Name == y.Name && sameModel(x.R, y.R) })
}

// dice are numbers that have no order to be seen.
type dice uint32

// roll is a number from 0 up to below n.
func (d *dice) roll(n int) int {
	*d = *d*1664525 + 1013904223
	return int(uint32(*d)>>8) % n
}

// rolled is a right value.
func rolled(d *dice, depth int) api.Value {
	var l []api.Term
	for range d.roll(4) {
		l = append(l, rolledTerm(d, depth))
	}
	v, _ := lat.Of(l...)
	return v
}

// rolledTerm is a right term.
func rolledTerm(d *dice, depth int) api.Term {
	if depth > 0 && d.roll(2) == 0 {
		t := api.Term{Kind: 4, Open: d.roll(2) == 0}
		for _, k := range []string{"a", "b_2", "c3456789abcdefgh"} {
			if v := rolled(d, depth-1); len(v.Terms) > 0 {
				t.Fields = append(t.Fields, api.Field{Name: k, V: v})
			}
		}
		return t
	}
	lo := d.roll(1<<(1+d.roll(20))) - d.roll(1<<(1+d.roll(20)))
	l := []api.Term{no, yes, both, maybe(both), number(lo, lo), number(lo, lo+d.roll(400)), maybe(number(lo, lo+1+d.roll(400))), numbers, maybe(numbers), text(""), text(strings.Repeat("\x85", d.roll(257))), texts, maybe(texts), all}
	return l[d.roll(len(l))]
}

// rolledResult is a right result.
func rolledResult(d *dice) api.Result {
	if d.roll(3) == 0 {
		return wrong(api.Errno(1 + d.roll(63)))
	}
	return api.Result{V: rolled(d, 2)}
}

// rolledDeps are a right trace.
func rolledDeps(d *dice) []api.Dep {
	var l []api.Dep
	names := []string{"a", "b", "a0", "net", "x_9", "inty", "a234567890123456"}
	for n := d.roll(8); len(l) < n; {
		s := names[d.roll(len(names))]
		if !slices.ContainsFunc(l, func(x api.Dep) bool { return x.Name == s }) {
			l = append(l, dep(s, rolledResult(d)))
		}
	}
	return l
}

// some are right results, all unlike: each error, one of each kind of value, such as are just not too great, and rolled ones.
func some() []api.Result {
	var l []api.Result
	for e := range 63 {
		l = append(l, wrong(api.Errno(e+1)))
	}
	l = append(l, came(), came(all), came(no), came(yes), came(both), came(maybe(both)), came(no, yes), came(number(0, 0)), came(number(24, 24)), came(number(1, 2)), came(maybe(number(1, 2))), came(number(-1, -1)), came(numbers), came(maybe(numbers)), came(number(-top, -top)), came(number(top, top)), came(number(1, 9), number(20, 30)),
		came(text("")), came(text("a")), came(text("\x00")), came(text("\x80\xff")), came(text(strings.Repeat("x", 127))), came(text(strings.Repeat("x", 256))), came(texts), came(maybe(texts)), came(no, number(1, 2), text("a"), closed()),
		came(closed()), came(open()), came(closed(field("a", yes))), came(open(field("a", yes))), came(closed(field("a", all), field("b", texts, open(field("c", no, yes))))), came(closed(field("a234567890123456", yes))), api.Result{V: nested(15, yes)}, api.Result{V: nested(15, open())},
		came(row(512)...), came(closed(fields(32, yes)...)), came(open(fields(32, row(15)[:14]...)...)), api.Result{V: nested(2, row(510)...)})
	for i := range 200 {
		r := api.Result{V: rolled(new(dice(i)), 2)}
		if !slices.ContainsFunc(l, func(x api.Result) bool { return sameModel(r, x) }) {
			l = append(l, r)
		}
	}
	return l
}

// broken are results that are not right, and have no error. Their values have bytes by the words of chapter 10 all the same.
func broken() []api.Result {
	return []api.Result{
		came(api.Term{}), came(api.Term{Kind: 6}), came(api.Term{Kind: 32}), came(no, api.Term{Kind: 16}), came(maybe(all)), came(maybe(closed())), came(api.Term{Kind: 5, Open: true}), came(maybe(no)), came(maybe(number(3, 3))), came(maybe(text("a"))), came(api.Term{Kind: 3, Text: "a", Any: true}), came(api.Term{Kind: 2, Open: true}),
		came(api.Term{Kind: 1, Hi: 2}), came(number(2, 1)), came(number(top, top+1)), came(number(-top-1, 0)), came(number(math.MinInt, math.MaxInt)), came(text(strings.Repeat("x", 257))), came(text(strings.Repeat("x", 1<<15))),
		came(yes, no), came(no, no), came(text("a"), no), came(all, all), came(number(1, 9), number(3, 3)), came(no, both), came(no, all), came(closed(), open()), came(texts, text("a")),
		came(closed(field("", yes))), came(closed(field("A", yes))), came(closed(field("int", yes))), came(closed(field("a2345678901234567", yes))), came(closed(field("b", yes), field("a", yes))), came(open(field("a", yes), field("a", yes))), came(closed(field("a"))), came(closed(field("a", yes, no))),
		came(closed(fields(33, yes)...)), came(row(513)...), came(closed(field("a", row(512)...))), came(closed(fields(32, row(16)...)...)), {V: nested(16, yes)}, {V: nested(16, closed())}, {V: nested(1000, yes)}, {V: nested(3, row(510)...)},
	}
}

// unwritten are results that are not right for what their bytes would not tell.
func unwritten() []api.Result {
	l := []api.Result{came(api.Term{Kind: 5, Lo: 1}), came(api.Term{Kind: 4, Text: "a"}), came(api.Term{Kind: 2, Text: "a"}), came(api.Term{Kind: 3, Hi: 1}), came(api.Term{Kind: 1, Fields: fields(1, yes)}), came(api.Term{Kind: -1}), came(api.Term{Kind: 1 << 61}),
		wrong(64), wrong(65), wrong(127), wrong(128), wrong(255), wrong(256), wrong(257), wrong(256 + 24), wrong(1 << 32), wrong(1<<32 + 24), wrong(-1), wrong(-24), wrong(-64), wrong(-256), wrong(math.MaxInt), wrong(math.MinInt), wrong(math.MinInt + 24)}
	for _, t := range []api.Term{all, no, number(1, 2), maybe(texts), closed(), {}, {Kind: -1}} {
		for e := range 66 {
			l = append(l, wrong(api.Errno(e+1), t))
		}
		l = append(l, wrong(-1, t), wrong(256, t))
	}
	return l
}

// simple tells whether a text is a name.
func simple(s string) bool {
	for i, c := range []byte(s) {
		if (c < 'a' || c > 'z') && (i == 0 || c != '_' && (c < '0' || c > '9')) {
			return false
		}
	}
	return s != "" && len(s) <= 16 && !slices.Contains([]string{"any", "bool", "computed", "false", "int", "none", "resource", "string", "true"}, s)
}

// counts is the number at the front of a text, and what stands behind it.
func counts(s string) (uint64, string, bool) {
	n := uint64(0)
	for i := range min(len(s), 10) {
		n = n*128 + uint64(s[i]%128)
		if s[i] < 128 {
			return n, s[i+1:], true
		}
	}
	return 0, "", false
}

// turnedBack is the number with a sign for which n stands.
func turnedBack(n uint64) int {
	if n%2 == 1 {
		return -int(n/2) - 1
	}
	return int(n / 2)
}

// piece is the text at the front of another one, and what stands behind it.
func piece(s string) (string, string, bool) {
	n, s, ok := counts(s)
	if !ok || n > uint64(len(s)) {
		return "", "", false
	}
	return s[:n], s[n:], true
}

// valueParsed is what may be a value at the front of a text, whether it is written shortest or not, and what stands behind it.
func valueParsed(s string, depth int) (v api.Value, rest string, ok bool) {
	n, s, ok := counts(s)
	for i := uint64(0); ok && i < n; i++ {
		var head, m uint64
		head, s, ok = counts(s)
		t := api.Term{Kind: int(head / 8), Maybe: head%2 == 1, Any: head/2%2 == 1, Open: head/4%2 == 1}
		switch t.Kind {
		case 1, 2:
			var lo, hi uint64
			lo, s, _ = counts(s)
			hi, s, ok = counts(s)
			t.Lo, t.Hi = turnedBack(lo), turnedBack(hi)
		case 3:
			t.Text, s, ok = piece(s)
		case 4:
			m, s, ok = counts(s)
			for j := uint64(0); ok && j < m && depth < 20; j++ {
				var f api.Field
				if f.Name, s, ok = piece(s); ok {
					f.V, s, ok = valueParsed(s, depth+1)
				}
				t.Fields = append(t.Fields, f)
			}
		}
		v.Terms = append(v.Terms, t)
	}
	return v, s, ok
}

// namesWrong are texts that are no names.
func namesWrong() []string {
	return []string{"", "A", "aB", "1", "_", "a.b", "a ", " a", "a\n", "a-", "int", "any", "none", "resource", "true", "a2345678901234567", strings.Repeat("a", 200), "\x00", "\xff", "é", "a\u00e9"}
}
