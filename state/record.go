package state

import (
	"bytes"

	"moraine/api"
	"moraine/rlp"
)

const recordParts = 4 // of an account's record

// Encode tells an account's record.
func Encode(a api.Account) []byte {
	parts := []api.Item{stringIn(rlp.Uint(a.Nonce)), stringIn(rlp.Word(a.Balance)), {Bytes: a.Root[:]}, {Bytes: a.Code[:]}}
	b, _ := rlp.Encode(api.Item{List: true, Items: parts})
	return b
}

// stringIn tells the string whose encoding b is.
func stringIn(b []byte) api.Item {
	x, _ := rlp.Decode(b)
	return x
}

// Decode tells the account whose record b is.
func Decode(b []byte) (api.Account, api.Errno) {
	x, e := rlp.Decode(b)
	if e != api.OK || len(x.Items) != recordParts {
		return api.Account{}, api.ErrTrieForm
	}
	var a api.Account
	// What has another length, or is a list, isn't taken here, or isn't spelt so by Encode.
	a.Nonce, _ = rlp.Unuint(encodingOf(x.Items[0]))
	a.Balance, _ = rlp.Unword(encodingOf(x.Items[1]))
	copy(a.Root[:], x.Items[2].Bytes)
	copy(a.Code[:], x.Items[3].Bytes)
	if !bytes.Equal(Encode(a), b) {
		return api.Account{}, api.ErrTrieForm
	}
	return a, api.OK
}

func encodingOf(x api.Item) []byte {
	b, _ := rlp.Encode(x)
	return b
}
