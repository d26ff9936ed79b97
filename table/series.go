package table

import (
	"cmp"
	"slices"

	"sediment/agg"
	"sediment/api"
	"sediment/grid"
)

// bucket is what is known of the values of a bucket.
type bucket struct {
	start int
	agg   api.Agg
}

// series has the buckets of one name, whose starts rise.
type series []bucket

// place tells where the first bucket stands that does not begin below start, and whether it begins just there.
func (l series) place(start int) (int, bool) { return slices.BinarySearchFunc(l, start, beside) }

// between tells the buckets that begin at from or later, below to.
func (l series) between(from, to int) series {
	first, _ := l.place(from)
	end, _ := l.place(to)
	return l[first:max(first, end)]
}

// records tells the buckets as records of that name.
func (l series) records(name string) []api.Record {
	var all []api.Record
	for _, b := range l {
		all = append(all, api.Record{Name: name, Start: b.start, Agg: b.agg})
	}
	return all
}

// add tells the series with one bucket or more put to it; like append it may write into the old one, and it orders what it is handed.
//
// All are woven in at once: so what stands behind them is moved but once, in whatever order they come.
func (l series) add(fresh ...bucket) series {
	slices.SortStableFunc(fresh, byStart)
	first, _ := l.place(fresh[0].start)
	end, is := l.place(fresh[len(fresh)-1].start)
	if is {
		end++
	}
	return slices.Replace(l, first, end, l[first:end].weave(fresh...)...)
}

// weave tells a new series: this one with buckets put to it that rise, none of it being behind the last one of them.
func (l series) weave(fresh ...bucket) series {
	var woven series
	for _, b := range fresh {
		for len(l) > 0 && l[0].start <= b.start {
			woven = append(woven, l[0])
			l = l[1:]
		}
		woven = woven.push(b)
	}
	return woven
}

// push tells the series with a bucket put to its end, none of it being behind that one: merged with the last one, if it is the same bucket.
func (l series) push(b bucket) series {
	last := len(l) - 1
	if last < 0 || l[last].start < b.start {
		return append(l, b)
	}
	l[last].agg = agg.Merge(l[last].agg, b.agg)
	return l
}

// roll tells the series in buckets of so many ticks, those that begin at from or later.
func (l series) roll(every, from int) series {
	var up series
	for _, b := range l {
		b.start = grid.Floor(b.start, every)
		if b.start >= from {
			up = up.push(b)
		}
	}
	return up
}

// beside tells where a bucket begins: below start (-1), just there (0), or above (1).
func beside(b bucket, start int) int { return cmp.Compare(b.start, start) }

// byStart tells which of two buckets begins first.
func byStart(a, b bucket) int { return beside(a, b.start) }
