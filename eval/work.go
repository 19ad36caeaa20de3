package eval

import (
	"treillage/api"
	"treillage/fact"
	"treillage/lat"
	"treillage/rank"
)

// fault is the error to which an expression comes. It ends all that the expression is a part of, so the work panics with it.
type fault struct{ e api.Errno }

// work is the evaluation of one node.
type work struct {
	reader Reader
	fuel   int
	steps  int
	deps   []api.Dep      // what was read
	places map[string]int // where in deps a name stands
}

// node is what definitions come to that may be.
func (w *work) node(defs []api.Expr) (came api.Result) {
	defer func() {
		r := recover()
		if f, ok := r.(fault); ok {
			came = api.Result{E: f.e}
		} else if r != nil {
			panic(r) // nothing that an expression comes to, so it is not to be told as such
		}
	}()
	return api.Result{V: w.together(defs, lat.Meet)}
}

// value is what an expression comes to, in memory of its own. Nodes may read one another through readers far down, so expressions are not copied for it.
func (w *work) value(e *api.Expr) api.Value {
	if w.steps >= w.fuel {
		panic(fault{api.ErrFuel})
	}
	w.steps++
	switch e.Op {
	case api.OpRef:
		return must(fact.Pick(w.read(e.Path[0]), e.Path[1:]...))
	case api.OpStruct:
		return w.structure(e)
	case api.OpMeet:
		return w.together(e.Kids, lat.Meet)
	case api.OpJoin:
		return w.together(e.Kids, lat.Join)
	case api.OpAdd, api.OpSub, api.OpMul:
		return reckoned(e.Op, w.value(&e.Kids[0]), w.value(&e.Kids[1]))
	}
	return must(lat.Of(terms(e)...))
}

// structure is what a struct comes to.
func (w *work) structure(e *api.Expr) api.Value {
	l := make([]api.Field, len(e.Pairs))
	for i := range e.Pairs {
		l[i] = api.Field{Name: e.Pairs[i].Name, V: w.value(&e.Pairs[i].E)}
	}
	return must(lat.Struct(e.Open, l))
}

// together is what comes of some expressions, each of which is put to those ahead of it as soon as it is there.
func (w *work) together(l []api.Expr, put func(a, b api.Value) (api.Value, api.Errno)) api.Value {
	v := w.value(&l[0])
	for i := 1; i < len(l); i++ {
		v = must(put(v, w.value(&l[i])))
	}
	return v
}

// read is what a name is read as. The reader is asked just once for each.
func (w *work) read(s string) api.Value {
	at, ok := w.places[s]
	if !ok {
		r := counted(w.ask(s))
		at = len(w.deps)
		w.places[s], w.deps = at, append(w.deps, api.Dep{Name: s, R: r})
	}
	return must(w.deps[at].R.V, w.deps[at].R.E)
}

// ask asks the reader. One that panics has answered nothing that is right, and its panic is not to leave the call that was handed it.
func (w *work) ask(s string) (r api.Result) {
	defer func() {
		if recover() != nil {
			r = api.Result{E: api.ErrArg}
		}
	}()
	return w.reader.Read(s)
}

// counted is what an answer of a reader counts as. It is copied, since the reader may go on to use what it answered.
func counted(r api.Result) api.Result {
	switch {
	case r.E != api.OK:
		return api.Result{E: r.E}
	case !lat.Right(r.V):
		return api.Result{E: api.ErrArg}
	}
	return api.Result{V: rank.Copy(r.V)}
}

// must is what there is if there is no error.
func must[T any](t T, e api.Errno) T {
	if e != api.OK {
		panic(fault{e})
	}
	return t
}
