package drill

import (
	"strconv"
	"strings"

	"kiln/api"
)

// told is the answer of what was asked for: what it tells, or why it was refused.
func told(err api.Errno, words ...string) string {
	if err != api.OK {
		return refused(err)
	}
	return sentence("ok", words...)
}

// refused is the answer of what was not done.
func refused(err api.Errno, words ...string) string {
	return sentence("error "+errno(err), words...)
}

// sentence: words behind a first one, a blank ahead of each.
func sentence(first string, words ...string) string {
	var b strings.Builder
	b.WriteString(first)
	for _, word := range words {
		b.WriteByte(' ')
		b.WriteString(word)
	}
	return b.String()
}

// errno is an error's number.
func errno(err api.Errno) string {
	return strconv.Itoa(int(err))
}

// wentOn are the words of a progress, but for what a build tells beside them.
func wentOn(p api.Progress) []string {
	acts := strconv.Itoa(p.Acts)
	switch {
	case p.Waits:
		return []string{acts, "waits"}
	case !p.Ended:
		return []string{acts, "going"}
	case p.Fault.Err == api.OK:
		return []string{acts, "done"}
	}
	return []string{acts, "fault", errno(p.Fault.Err)}
}

// built are the words of a build's progress.
func built(p api.Progress) []string {
	words := wentOn(p)
	switch {
	case !p.Ended:
		return words
	case p.Fault.Err == api.OK:
		return append(words, strconv.Itoa(p.Gen))
	}
	return append(words, spot(p.Fault)...)
}

// spot are the words of where in a manifest a fault is.
func spot(f api.Fault) []string {
	return []string{strconv.Itoa(f.Line), quote(f.Task)}
}

// faulty is the answer of a manifest that means no tree.
func faulty(f api.Fault) string {
	if f.Err == api.ErrSource {
		return sentence("fault", errno(f.Err), strconv.Itoa(f.Place))
	}
	return sentence("fault "+errno(f.Err), spot(f)...)
}

// sized is a file's name or path, and how many bytes it has.
func sized(name string, bytes int) string {
	return name + ":" + strconv.Itoa(bytes)
}

// quote writes bytes as a literal.
func quote(s string) string {
	var b strings.Builder
	b.Grow(len(s) + 2)
	b.WriteByte('"')
	for i := range len(s) {
		switch c := s[i]; {
		case c == '"', c == '\\':
			b.WriteByte('\\')
			b.WriteByte(c)
		case c == '\n':
			b.WriteString(`\n`)
		case c < ' ', c > '~':
			b.WriteString(`\x`)
			b.WriteString(hex(c))
		default:
			b.WriteByte(c)
		}
	}
	b.WriteByte('"')
	return b.String()
}

// hex writes bytes by two digits each.
func hex(bytes ...byte) string {
	var b strings.Builder
	for _, c := range bytes {
		b.WriteByte(digits[c>>4])
		b.WriteByte(digits[c&15])
	}
	return b.String()
}
