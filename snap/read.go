package snap

import (
	"iter"
	"strconv"
	"strings"

	"sluicebook/agg"
	"sluicebook/api"
	"sluicebook/batch"
	"sluicebook/row"
	"sluicebook/stream"
	"sluicebook/val"
)

// read gives what a Stream knows of whom write wrote that text. It also reads some texts that write never writes.
func read(text string) (stream.Known, error) {
	var k stream.Known
	for word, rest := range lines(text) {
		if err := take(&k, word, rest); err != nil {
			return stream.Known{}, err
		}
	}
	return k, nil
}

// lines goes over a text line by line: the first word, and what stands behind it.
func lines(text string) iter.Seq2[string, string] {
	return func(yield func(word, rest string) bool) {
		for line := range strings.Lines(text) {
			word, rest, _ := strings.Cut(strings.TrimSuffix(line, end), blank)
			if !yield(word, rest) {
				return
			}
		}
	}
}

// take adds what one line more tells.
func take(k *stream.Known, word, rest string) error {
	switch word {
	case ofStream:
		rows, last, err := readNumbers(rest)
		k.Rows, k.Left.Last = rows, last
		return err
	case ofWindow:
		from, err := strconv.Atoi(rest)
		k.Left.Windows = append(k.Left.Windows, batch.Window{From: from})
		return err
	}
	w, err := lastOf(k.Left.Windows)
	if err != nil {
		return err
	}
	return takeOfWindow(w, word, rest)
}

func takeOfWindow(w *batch.Window, word, rest string) error {
	if word == ofGroup {
		g, err := readGroup(rest)
		w.Groups = append(w.Groups, g)
		return err
	}
	g, err := lastOf(w.Groups)
	if err != nil {
		return err
	}
	f, err := readFound(word, rest)
	g.Known.Parts = append(g.Known.Parts, f)
	return err
}

// lastOf is what the lines that follow belong to.
func lastOf[T any](l []T) (*T, error) {
	if len(l) == 0 {
		return nil, api.ErrSyntax
	}
	return &l[len(l)-1], nil
}

// readNumbers reads two, a blank between.
func readNumbers(text string) (a, b int, err error) {
	first, second, _ := strings.Cut(text, blank)
	if a, err = strconv.Atoi(first); err != nil {
		return 0, 0, err
	}
	b, err = strconv.Atoi(second)
	return a, b, err
}

func readGroup(text string) (batch.Group, error) {
	number, values, _ := strings.Cut(text, blank)
	rows, err := strconv.Atoi(number)
	if err != nil {
		return batch.Group{}, err
	}
	key, err := row.Parse(values)
	return batch.Group{Key: key, Known: agg.Known{Rows: rows}}, err
}

func readFound(word, text string) (agg.Found, error) {
	switch word {
	case ofCount:
		return agg.Found{}, nil
	case ofSum:
		sum, err := readSum(text)
		return agg.Found{Sum: sum}, err
	case ofBest:
		best, err := val.Parse(text)
		return agg.Found{Best: best}, err
	}
	return agg.Found{}, api.ErrSyntax
}

func readSum(text string) ([]uint64, error) {
	var sum []uint64
	for word := range strings.SplitSeq(text, comma) {
		w, err := strconv.ParseUint(word, 10, 64)
		if err != nil {
			return nil, err
		}
		sum = append(sum, w)
	}
	return sum, nil
}
