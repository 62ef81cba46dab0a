"""The form of the package's own files: a small part of Python, and nothing imported."""

import ast
import builtins
import pathlib
import re
import unittest

import waterways

PACKAGE = pathlib.Path(waterways.__file__).parent

NODES = {
    "Module", "FunctionDef", "arguments", "arg", "Return", "Assign", "If", "While", "For", "Break", "Continue",
    "Pass", "Expr", "Call", "Name", "Load", "Store", "Constant", "List", "Tuple", "Dict", "Subscript", "Slice",
    "Attribute", "IfExp", "ListComp", "comprehension", "Compare", "BoolOp", "And", "Or", "UnaryOp", "Not", "USub",
    "BinOp", "Add", "Sub", "Mult", "FloorDiv", "Mod", "Eq", "NotEq", "Lt", "LtE", "Gt", "GtE", "In", "NotIn",
}
OWN_OF_PYTHON = {
    "len", "range", "enumerate", "zip", "min", "max", "sum", "abs", "sorted", "reversed", "int", "str", "bool",
    "list", "tuple", "dict", "isinstance", "any", "all", "divmod",
}
METHODS = {"append", "copy", "count", "extend", "get", "index", "insert", "items", "keys", "pop", "values"}
WORDS = {
    "type", "typing", "typing_extensions", "enum", "Enum", "IntEnum", "StrEnum", "Flag", "IntFlag", "Generic",
    "Protocol", "ABC", "ABCMeta", "namedtuple", "NamedTuple", "TypedDict", "TYPE_CHECKING", "abstractmethod",
}


def bound_names(tree):
    """Every name that the file gives to something itself."""
    names = []
    for node in ast.walk(tree):
        if isinstance(node, ast.FunctionDef):
            names.append(node.name)
        elif isinstance(node, ast.arg):
            names.append(node.arg)
        elif isinstance(node, ast.Name) and isinstance(node.ctx, ast.Store):
            names.append(node.id)
    return names


class Form(unittest.TestCase):
    def setUp(self):
        self.texts = {path.name: path.read_text(encoding="utf-8") for path in sorted(PACKAGE.glob("*.py"))}
        self.trees = {name: ast.parse(text) for name, text in self.texts.items()}

    def test_files(self):
        names = sorted(path.name for path in PACKAGE.iterdir() if path.name != "__pycache__")
        self.assertEqual(names, ["__init__.py", "desk.py"])

    def test_nothing_is_imported(self):
        for tree in self.trees.values():
            for node in ast.walk(tree):
                self.assertNotIsInstance(node, (ast.Import, ast.ImportFrom))

    def test_statements_and_expressions(self):
        for name, tree in self.trees.items():
            for node in ast.walk(tree):
                self.assertIn(type(node).__name__, NODES, (name, getattr(node, "lineno", 0)))
                if isinstance(node, ast.Constant):
                    self.assertIn(type(node.value), (int, str, bool, type(None)), (name, node.lineno))
                if isinstance(node, ast.Assign):
                    self.assertEqual(len(node.targets), 1, (name, node.lineno))
                if isinstance(node, (ast.For, ast.While)):
                    self.assertEqual(node.orelse, [], (name, node.lineno))
                if isinstance(node, ast.Attribute):
                    self.assertIn(node.attr, METHODS, (name, node.lineno))

    def test_functions_take_plain_parameters(self):
        for name, tree in self.trees.items():
            for node in ast.walk(tree):
                if isinstance(node, ast.FunctionDef):
                    self.assertEqual(node.decorator_list, [], node.name)
                    self.assertIsNone(node.args.vararg, node.name)
                    self.assertIsNone(node.args.kwarg, node.name)
                    self.assertEqual(node.args.kwonlyargs + node.args.posonlyargs, [], node.name)

    def test_names(self):
        for name, tree in self.trees.items():
            bound = bound_names(tree)
            for word in bound:
                self.assertRegex(word, r"\A[A-Za-z][A-Za-z0-9_]*\Z")
                self.assertNotIn(word, dir(builtins))
            read = {node.id for node in ast.walk(tree) if isinstance(node, ast.Name)}
            self.assertEqual(read - set(bound) - OWN_OF_PYTHON, set(), name)

    def test_each_name_of_the_top_is_bound_once(self):
        for name, tree in self.trees.items():
            tops = [node.name for node in tree.body if isinstance(node, ast.FunctionDef)]
            tops += [node.targets[0].id for node in tree.body if isinstance(node, ast.Assign)]
            self.assertEqual(len(tops), len(set(tops)), name)

    def test_size(self):
        for name, text in self.texts.items():
            rows = text.split("\n")
            self.assertLessEqual(len(rows), 400, name)
            self.assertLessEqual(max(len(row) for row in rows), 120, name)
            for node in ast.walk(self.trees[name]):
                if isinstance(node, ast.FunctionDef):
                    self.assertLessEqual(node.end_lineno - node.lineno + 1, 40, node.name)

    def test_signs_and_words(self):
        for name, text in self.texts.items():
            self.assertRegex(text, r"\A[ -~\n]*\Z", name)
            self.assertEqual(set(re.findall(r"\w+", text)) & WORDS, set(), name)


if __name__ == "__main__":
    unittest.main()
