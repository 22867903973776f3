package engine

import (
	"iter"

	"kiln/api"
	"kiln/pins"
)

// results are those that are kept: of each print one, which is told by the number of its record.
type results struct {
	records *pins.Table[int, api.Record] // by their numbers
	numbers map[api.Key]int              // by print
}

// newResults is none.
func newResults() *results {
	return &results{records: pins.NewTable[int, api.Record](), numbers: map[api.Key]int{}}
}

// find tells the kept result of a print.
func (r *results) find(print api.Key) (api.Record, bool) {
	number, ok := r.numbers[print]
	if !ok {
		return api.Record{}, false
	}
	return r.records.Get(number)
}

// put keeps a result of whose print none is kept.
func (r *results) put(record api.Record) {
	r.records.Put(record.Num, record)
	r.numbers[record.Print] = record.Num
}

// remove keeps a result no more.
func (r *results) remove(record api.Record) {
	r.records.Delete(record.Num)
	delete(r.numbers, record.Print)
}

// count tells how many are kept.
func (r *results) count() int {
	return r.records.Len()
}

// from goes over those whose number is not below one, by rising number.
func (r *results) from(number int) iter.Seq2[int, api.Record] {
	return r.records.From(number)
}
