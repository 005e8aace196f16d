package snap

import (
	"strconv"
	"strings"

	"sluicebook/agg"
	"sluicebook/row"
	"sluicebook/stream"
	"sluicebook/val"
)

// The first word of each line of a text tells what stands behind it. A window is followed by its groups, and a group by what its aggregates found, one by one.
const (
	ofStream = "stream" // how many rows were Pushed, and the last time
	ofWindow = "window" // where it begins
	ofGroup  = "group"  // how many rows it has, and the values of its columns
	ofCount  = "count"  // nothing: that stands with the group
	ofSum    = "sum"    // its words, the lowest first
	ofBest   = "best"   // the value of least, or most
)

// What parts words, the words of a sum, and lines. No number has any of them within, and no value an end.
const (
	blank = " "
	comma = ","
	end   = "\n"
)

// write tells what a Stream knows, line by line.
func write(k stream.Known) string {
	var text strings.Builder
	line := func(words ...string) { text.WriteString(strings.Join(words, blank) + end) }
	line(ofStream, strconv.Itoa(k.Rows), strconv.Itoa(k.Left.Last))
	for _, w := range k.Left.Windows {
		line(ofWindow, strconv.Itoa(w.From))
		for _, g := range w.Groups {
			key, _ := row.Print(g.Key) // they are of rows that were checked
			line(ofGroup, strconv.Itoa(g.Known.Rows), key)
			for _, f := range g.Known.Parts {
				line(found(f)...)
			}
		}
	}
	return text.String()
}

// found are the words of what an aggregate found.
func found(f agg.Found) []string {
	if len(f.Sum) > 0 {
		return []string{ofSum, sumText(f.Sum)}
	}
	best, err := val.Print(f.Best)
	if err != nil { // it is no value, as there is none of count
		return []string{ofCount}
	}
	return []string{ofBest, best}
}

func sumText(sum []uint64) string {
	var words []string
	for _, w := range sum {
		words = append(words, strconv.FormatUint(w, 10))
	}
	return strings.Join(words, comma)
}
