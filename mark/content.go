package mark

import (
	"kiln/api"
	"kiln/node"
)

// content is what is known of a chain's bytes, as far as anything added may still ask for it.
type content struct {
	node    bool        // whether they are one
	key     api.Key     // of a node
	entries []api.Entry // of a node that was not gone through as a directory yet
}

// contentOf looks at a chain's bytes: any of them may be asked for as a node later, when they are not read again.
func contentOf(b []byte) content {
	entries, err := node.Decode(b)
	if err != api.OK {
		return content{}
	}
	key, err := node.KeyOf(entries)
	return content{node: err == api.OK, key: key, entries: entries}
}
