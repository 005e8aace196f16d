package query

import (
	"strconv"
	"strings"

	"sluicebook/api"
	"sluicebook/tree"
)

// writer stops where its text is longer than Parse reads, as what is handed in may be far longer than memory.
type writer struct {
	text strings.Builder
	full bool
}

// write gives the text of a query that Parse reads; of others a text that Parse reads as another one, or as none.
func write(q api.Query) string {
	var w writer
	w.put("select ")
	if len(q.Aggs) > 0 {
		w.several(len(q.Aggs), func(i int) { w.agg(q.Aggs[i]) })
	} else {
		w.several(min(len(q.Cols), len(q.Names)), func(i int) { w.col(q.Cols[i], q.Names[i]) })
	}
	w.put(" from ", q.From)
	if !IsNothing(q.Where) {
		w.put(" where ")
		w.expression(q.Where)
	}
	if len(q.Aggs) > 0 {
		w.group(q)
	}
	if w.full {
		return ""
	}
	return w.text.String()
}

func (w *writer) put(texts ...string) {
	for _, s := range texts {
		w.full = w.full || len(s) > api.MaxQuery-w.text.Len()
		if !w.full {
			w.text.WriteString(s)
		}
	}
}

// several writes parts, with a comma between, as long as there is room.
func (w *writer) several(n int, part func(i int)) {
	for i := 0; i < n && !w.full; i++ {
		if i > 0 {
			w.put(", ")
		}
		part(i)
	}
}

// expression leaves out one that is wrong: where nothing stands, Parse reads none either.
func (w *writer) expression(e api.Expr) {
	text, _ := tree.Print(e)
	w.put(text)
}

func (w *writer) col(e api.Expr, name string) {
	w.expression(e)
	w.put(" as ", name)
}

func (w *writer) agg(a api.Agg) {
	w.put(a.What)
	if a.What != Count {
		w.put("(")
		w.expression(a.Of)
		w.put(")")
	}
	w.put(" as ", a.Name)
}

func (w *writer) group(q api.Query) {
	w.put(" group by ")
	w.several(len(q.Group), func(i int) { w.put(q.Group[i]) })
	w.put(" window ", strconv.Itoa(q.Size))
	if q.Slide != q.Size {
		w.put(" slide ", strconv.Itoa(q.Slide))
	}
}
