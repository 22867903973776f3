package term

import (
	"iter"
	"slices"
	"strings"

	"kiln/api"
)

const (
	lineEnd = "\n"
	caseBit = 'a' ^ 'A'
	digits  = "0123456789abcdef"
)

// textsOf is the texts of the lines of a value, one by one.
func textsOf(a string) iter.Seq[string] {
	return func(yield func(string) bool) {
		for line := range strings.Lines(a) {
			if !yield(strings.TrimSuffix(line, lineEnd)) {
				return
			}
		}
	}
}

// ended is texts, each as a line with its end.
func ended(texts []string) string {
	var all strings.Builder
	for _, text := range texts {
		all.WriteString(text)
		all.WriteString(lineEnd)
	}
	return all.String()
}

// otherCase is a value with each letter from first to last, all of one case, made one of the other case.
func otherCase(a string, first, last byte) string {
	b := []byte(a)
	for i, c := range b {
		if first <= c && c <= last {
			b[i] = c ^ caseBit
		}
	}
	return string(b)
}

// linesOf is the lines of a value from one number on, ahead of another one.
func linesOf(a string, from, to int) string {
	var all strings.Builder
	number := 0
	for line := range strings.Lines(a) {
		if from <= number && number < to {
			all.WriteString(line)
		}
		number++
	}
	return all.String()
}

// sorted is the lines of a value in the order of their texts.
func sorted(a string) string {
	return ended(slices.Sorted(textsOf(a)))
}

// unlike is the lines of a value that are unlike the one right ahead.
func unlike(a string) string {
	return ended(slices.Compact(slices.Collect(textsOf(a))))
}

// counted is how often a pattern is found in a value, each behind the one ahead.
func counted(a, pattern string) int {
	demand(0 < len(pattern) && len(pattern) <= api.MaxPattern, api.ErrEmpty)
	return strings.Count(a, pattern)
}

// replaced is a value with something else in the place of each pattern that is found in it.
func replaced(a, pattern, by string) string {
	found := counted(a, pattern)
	demandLength(len(a) + found*(len(by)-len(pattern))) // ahead of making what might be far too long
	return strings.ReplaceAll(a, pattern, by)
}

// digitsOf is the bytes of a key, each as two digits.
func digitsOf(k api.Key) string {
	var all strings.Builder
	for _, b := range k {
		all.WriteByte(digits[b>>4])
		all.WriteByte(digits[b&15])
	}
	return all.String()
}
