package text

import (
	"strconv"

	"touchstone/api"
	"touchstone/level"
)

const mostNumber = 9999999 // that has mostDigits digits

// levelSigns is what a level of each kind begins with.
var levelSigns = [...]string{
	api.LevelZero:  "0",
	api.LevelSucc:  "S",
	api.LevelMax:   "M",
	api.LevelImax:  "I",
	api.LevelParam: "p",
}

// writer writes a text, as far as there is one.
type writer struct {
	text   []byte
	spoilt bool                // there is none
	terms  []func(t *api.Term) // what a term of each kind is written by
}

func newWriter() *writer {
	w := &writer{}
	w.terms = []func(*api.Term){
		api.TermVar:   w.variable,
		api.TermSort:  w.sort,
		api.TermConst: w.constant,
		api.TermApp:   w.app,
		api.TermLam:   w.lam,
		api.TermPi:    w.pi,
		api.TermLet:   w.let,
	}
	return w
}

func (w *writer) spoil() {
	w.text, w.spoilt = nil, true
}

func (w *writer) add(s string) {
	if w.spoilt || len(s) > api.MaxText-len(w.text) {
		w.spoil()
		return
	}
	w.text = append(w.text, s...)
}

// level writes l, if it may be.
func (w *writer) level(l *api.Level) {
	if !level.May(*l, api.MaxParams) {
		w.spoil()
		return
	}
	w.levelPart(l)
}

func (w *writer) levelPart(l *api.Level) {
	w.add(levelSigns[l.Kind])
	if l.Kind == api.LevelParam {
		w.add(strconv.Itoa(l.N))
	}
	for i := range l.Args {
		w.levelPart(&l.Args[i])
	}
}

// term writes t, which is whole. Each term has a sign ahead of its Args, so that the text is too long
// before the calls are too deep, even where t has no end.
func (w *writer) term(t *api.Term) {
	if !w.spoilt {
		w.terms[t.Kind](t)
	}
}

func (w *writer) variable(t *api.Term) {
	if t.N > mostNumber {
		w.spoil()
		return
	}
	w.add("#")
	w.add(strconv.Itoa(t.N))
}

func (w *writer) sort(t *api.Term) {
	w.add("*")
	w.level(&t.Levels[0])
}

func (w *writer) constant(t *api.Term) {
	if !isName(t.Name) || len(t.Levels) > api.MaxParams {
		w.spoil()
		return
	}
	w.add(t.Name)
	if len(t.Levels) > 0 {
		w.levelList(t.Levels)
	}
}

// levelList writes the levels of a name, with their braces.
func (w *writer) levelList(list []api.Level) {
	ahead := "{"
	for i := range list {
		w.add(ahead)
		w.level(&list[i])
		ahead = ","
	}
	w.add("}")
}

func (w *writer) app(t *api.Term) {
	w.row(t.Args, "(", " ")
	w.add(")")
}

func (w *writer) lam(t *api.Term) {
	w.row(t.Args, `\`, ". ")
}

func (w *writer) pi(t *api.Term) {
	w.row(t.Args, "!", ". ")
}

func (w *writer) let(t *api.Term) {
	w.row(t.Args, "=", ":", ". ")
}

// row writes terms, each with its sign ahead.
func (w *writer) row(list []api.Term, signs ...string) {
	for i, s := range signs {
		w.add(s)
		w.term(&list[i])
	}
}
