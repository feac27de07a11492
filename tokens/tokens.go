// Package tokens reads the tokens of a program one after the other, up to the
// first error. The parsers of the packages expr and tree read by it.
package tokens

import "puppeteer/api"

// A Reader reads a list of tokens. Once it has an error, it reads no further: At
// stays where the error is, and what its methods return counts for nothing.
type Reader struct {
	List []api.Token
	At   int // the index of the token that is read next
	Err  api.Errno
}

// New returns a reader that begins at index at, or behind the last token if at is
// no index.
func New(l []api.Token, at int) Reader {
	if at < 0 || at > len(l) {
		at = len(l)
	}
	return Reader{List: l, At: at}
}

// Next returns the token that is read next, or a TEnd if there is none or it is
// not to be read.
func (r *Reader) Next() api.Token {
	if r.Err != api.OK || r.At >= len(r.List) {
		return api.Token{}
	}
	return r.List[r.At]
}

// Fail puts an error at the next token, unless there is one already.
func (r *Reader) Fail(err api.Errno) {
	if r.Err == api.OK {
		r.Err = err
	}
}

// Is tells whether the next token is this word or sign.
func (r *Reader) Is(text string) bool {
	token := r.Next()
	return (token.Kind == api.TWord || token.Kind == api.TSign) && token.Text == text
}

// Accept reads the next token if it is this word or sign, and tells whether it is.
func (r *Reader) Accept(text string) bool {
	if !r.Is(text) {
		return false
	}
	r.At++
	return true
}

// Expect reads a word or sign that must be next.
func (r *Reader) Expect(text string) {
	if !r.Accept(text) {
		r.Fail(api.ErrSyntax)
	}
}

// Number reads a TInt, which must be next, and returns its N.
func (r *Reader) Number() int {
	return r.one(api.TInt).N
}

// Name reads a TName, which must be next, and returns its Text.
func (r *Reader) Name() string {
	return r.one(api.TName).Text
}

// one reads a token of this kind, which must be next.
func (r *Reader) one(kind int) api.Token {
	token := r.Next()
	if token.Kind != kind {
		r.Fail(api.ErrSyntax)
		return api.Token{}
	}
	r.At++
	return token
}
